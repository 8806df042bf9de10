/-
  Eval, plainly: the inputs' words laid in, then each gate's, rising; what comes of it.
-/
import Derived.Test.YtjdebancpgpebaaAigM
namespace Go.Proofs.Ytjdebancpgpebaa
open Go.RowKit Num

def in1 (G : Gr) (ins : List Int) : Nat → List Int
  | 0 => List.replicate G.nodes.length 0
  | j + 1 => (in1 G ins j).set (G.inputs.getD j 0).toNat (ins.getD j 0)
def nodeAt (G : Gr) (i : Nat) : Nd := G.nodes.getD i ⟨false, 0, 0⟩
def gateW (G : Gr) (i : Nat) (ws : List Int) : Int := bits .and .u64 (wordV (nodeAt G i).a ws) (wordV (nodeAt G i).b ws)
def ev (G : Gr) (W : List Int) : Nat → List Int
  | 0 => W
  | i + 1 => if (nodeAt G i).gate then (ev G W i).set i (gateW G i (ev G W i)) else ev G W i

theorem in1_len (G : Gr) (ins : List Int) (j : Nat) : (in1 G ins j).length = G.nodes.length := by
  induction j with
  | zero => simp [in1]
  | succ j ih => simp [in1, ih]
theorem ev_len (G : Gr) (W : List Int) (i : Nat) : (ev G W i).length = W.length := by
  induction i with
  | zero => rfl
  | succ i ih => unfold ev; split <;> simp [ih]
theorem words_set {ws : List Int} (h : Words ws) (i : Nat) {x : Int} (hx : 0 ≤ x ∧ x < 18446744073709551616) : Words (ws.set i x) := by
  intro j
  simp only [List.getD, List.getElem?_set]
  by_cases e : i = j
  · subst e
    by_cases hl : i < ws.length
    · simp [hl]; omega
    · simp [hl]
  · simp [e]; exact h j
theorem words_zero (n : Nat) : Words (List.replicate n 0) := by
  intro i
  simp [List.getD, List.getElem?_replicate]
  split <;> simp
theorem in1_words (G : Gr) {ins : List Int} (h : Words ins) (j : Nat) : Words (in1 G ins j) := by
  induction j with
  | zero => exact words_zero _
  | succ j ih => exact words_set ih _ (h j)
theorem gateW_bd (G : Gr) (i : Nat) {ws : List Int} (h : Words ws) : 0 ≤ gateW G i ws ∧ gateW G i ws < 18446744073709551616 := by
  have a := wordV_bd h (nodeAt G i).a
  have b := wordV_bd h (nodeAt G i).b
  exact and_bd a.1 a.2 b.1 b.2
theorem ev_words (G : Gr) {W : List Int} (h : Words W) (i : Nat) : Words (ev G W i) := by
  induction i with
  | zero => exact h
  | succ i ih =>
    unfold ev; split
    · exact words_set ih _ (gateW_bd G i ih)
    · exact ih
theorem getD_set {ws : List Int} (i j : Nat) (x : Int) (hi : i < ws.length) : (ws.set i x).getD j 0 = if i = j then x else ws.getD j 0 := by
  simp only [List.getD, List.getElem?_set]
  by_cases e : i = j
  · subst e; simp [hi]
  · simp [e]
/-- What is laid in. -/
theorem in1_at {G : Gr} (hW : Wf G) (ins : List Int) : ∀ j, j ≤ G.inputs.length → (∀ (k i : Nat), k < j → G.inputs[k]? = some (i : Int) → (in1 G ins j).getD i 0 = ins.getD k 0) ∧ (in1 G ins j).getD 0 0 = 0 := by
  intro j
  induction j with
  | zero =>
    intro _
    refine ⟨fun k i h => by omega, ?_⟩
    have := words_zero G.nodes.length
    simp [in1, List.getD, List.getElem?_replicate]
    split <;> simp
  | succ j ih =>
    intro hj
    obtain ⟨h1, h2⟩ := ih (by omega)
    have hg : G.inputs[j]? = some (G.inputs.getD j 0) := by simp [List.getD, show j < G.inputs.length by omega]
    obtain ⟨m, em, m0, n, hn, -⟩ := hW.ins j _ hg
    have hm := (List.getElem?_eq_some_iff.1 hn).1
    have hml : m < (in1 G ins j).length := by rw [in1_len]; exact hm
    rw [show in1 G ins (j + 1) = (in1 G ins j).set (G.inputs.getD j 0).toNat (ins.getD j 0) from rfl, em, Int.toNat_natCast]
    refine ⟨fun k i hk hki => ?_, ?_⟩
    · rw [getD_set _ _ _ hml]
      by_cases e : k = j
      · subst e
        rw [hg] at hki
        have : m = i := by have := Option.some.inj hki; omega
        rw [if_pos this]
      · have hlt : k < j := by omega
        have := hW.rise k j _ _ hlt hki hg
        rw [if_neg (by omega)]
        exact h1 k i hlt hki
    · rw [getD_set _ _ _ hml, if_neg (by omega)]; exact h2
/-- What is past stays. -/
theorem ev_past (G : Gr) (W : List Int) (hl : W.length = G.nodes.length) (k : Nat) : ∀ d i, k < i → (ev G W (i + d)).getD k 0 = (ev G W i).getD k 0 := by
  intro d
  induction d with
  | zero => intro i _; rfl
  | succ d ih =>
    intro i hk
    rw [← ih i hk, show i + (d + 1) = (i + d) + 1 from rfl]
    show (if (nodeAt G (i + d)).gate then (ev G W (i + d)).set (i + d) (gateW G (i + d) (ev G W (i + d))) else ev G W (i + d)).getD k 0 = _
    split
    · by_cases hlt : i + d < (ev G W (i + d)).length
      · rw [getD_set _ _ _ hlt, if_neg (by omega)]
      · rw [List.set_eq_of_length_le (by omega)]
    · rfl
theorem ev_plain (G : Gr) (W : List Int) (k : Nat) (hk : (nodeAt G k).gate = false) : ∀ i, (ev G W i).getD k 0 = W.getD k 0 := by
  intro i
  induction i with
  | zero => rfl
  | succ i ih =>
    unfold ev
    split
    · rename_i hg
      by_cases hlt : i < (ev G W i).length
      · rw [getD_set _ _ _ hlt, if_neg (fun e => by subst e; rw [hk] at hg; cases hg)]; exact ih
      · rw [List.set_eq_of_length_le (by omega)]; exact ih
    · exact ih
theorem wordV_congr {l : Int} {ws ws' : List Int} (hl : ws.length = ws'.length) (h0 : 0 ≤ l) (h : ws.getD (l / 2).toNat 0 = ws'.getD (l / 2).toNat 0) : wordV l ws = wordV l ws' := by
  have e : nodeW (l / 2) ws = nodeW (l / 2) ws' := by
    unfold nodeW; rw [hl, h]
  unfold wordV; rw [e]
/-- Eval says the graph's words. -/
theorem ev_val {G : Gr} (hW : Wf G) {ins : List Int} (hI : Words ins) : Val G ins (ev G (in1 G ins G.inputs.length) G.nodes.length) := by
  have hl := in1_len G ins G.inputs.length
  have hin := in1_at hW ins _ (Nat.le_refl _)
  have hat : ∀ i n, G.nodes[i]? = some n → nodeAt G i = n := fun i n h => by simp [nodeAt, List.getD, h]
  refine ⟨ev_words G (in1_words G hI _) _, by rw [ev_len, hl]; exact Nat.le_refl _, ?_, ?_, ?_⟩
  · rw [ev_plain G _ 0 (by rw [hat 0 _ hW.zero]) _]; exact hin.2
  · intro i n hn hg
    have hi := (List.getElem?_eq_some_iff.1 hn).1
    obtain ⟨la, lb, hba, hai⟩ := hW.gates i n hn hg
    have e1 : (ev G (in1 G ins G.inputs.length) G.nodes.length).getD i 0 = (ev G (in1 G ins G.inputs.length) (i + 1)).getD i 0 := by
      have := ev_past G _ hl i (G.nodes.length - (i + 1)) (i + 1) (by omega)
      rw [show i + 1 + (G.nodes.length - (i + 1)) = G.nodes.length by omega] at this
      exact this
    have e2 : ∀ k, k < i → (ev G (in1 G ins G.inputs.length) G.nodes.length).getD k 0 = (ev G (in1 G ins G.inputs.length) i).getD k 0 := fun k hk => by
      have := ev_past G _ hl k (G.nodes.length - i) i hk
      rw [show i + (G.nodes.length - i) = G.nodes.length by omega] at this
      exact this
    have e3 : (ev G (in1 G ins G.inputs.length) (i + 1)).getD i 0 = gateW G i (ev G (in1 G ins G.inputs.length) i) := by
      show (if (nodeAt G i).gate then (ev G _ i).set i (gateW G i (ev G _ i)) else ev G _ i).getD i 0 = _
      rw [hat i n hn, if_pos hg, getD_set _ _ _ (by rw [ev_len, hl]; exact hi), if_pos rfl]
    have ll : ∀ m, (ev G (in1 G ins G.inputs.length) i).length = (ev G (in1 G ins G.inputs.length) m).length := fun m => by rw [ev_len, ev_len]
    unfold IsLit at la lb
    rw [e1, e3]
    unfold gateW
    rw [hat i n hn, wordV_congr (ll _) la.1 (e2 _ (by omega)).symm, wordV_congr (ll _) lb.1 (e2 _ (by omega)).symm]
  · intro k i hk
    have hk2 := (List.getElem?_eq_some_iff.1 hk).1
    obtain ⟨m, em, m0, n, hn, hg⟩ := hW.ins k _ hk
    have : m = i := by omega
    subst this
    rw [ev_plain G _ m (by rw [hat m n hn]; exact hg) _]
    exact hin.1 k m hk2 hk
end Go.Proofs.Ytjdebancpgpebaa
