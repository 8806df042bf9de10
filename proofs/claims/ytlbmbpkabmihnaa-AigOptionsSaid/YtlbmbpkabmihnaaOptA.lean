/-
  AigOptions, plainly: the calls of one run; what they mean, whatever the options are.
-/
import Derived.Test.YtlbmbpkabmihnaaAigO
import Derived.Test.YtlbmbpkabmihnaaAigS
import Derived.Test.YtlbmbpkabmihnaaAigP
namespace Go.Proofs.Ytlbmbpkabmihnaa
open Go.RowKit Go.Maps

abbrev MAXW : Int := 18446744073709551615
def pickN (n : Int) (m : Nat) : Nat := ((n / 2) % (m : Int)).toNat
def bRow (t zs : List Int) : List Int := (zs.take 4 ++ [0, 1, 2]).map (fun n => ifV (t.getD (pickN n t.length) 0) (n % 2 == 1))
def bMean (m zs : List Int) : List Int := (zs.take 4 ++ [0, 1, 2]).map (fun n => if n % 2 == 1 then MAXW - m.getD (pickN n m.length) 0 else m.getD (pickN n m.length) 0)
def callO (G : Gr) (k : Int) (b : List Int) : Gr × Int := if k = 0 ∨ k = 1 ∨ k = 2 ∨ k = 3 ∨ k = 4 then callG G k b else (G, 0)
def insO (ws : List Int) (i : Nat) (k : Int) (ins : List Int) : List Int := if k = 0 then ins ++ [if ins.length < ws.length then ws.getD ins.length 0 else (i : Int)] else ins
def callM (x k : Int) (b : List Int) : Int :=
  if k = 0 then x else if k = 1 then b.foldl (bits .and .u64) MAXW else if k = 2 then b.foldl (bits .or .u64) 0 else if k = 3 then b.foldl (bits .xor .u64) 0
  else if k = 4 then bits .or .u64 (bits .and .u64 (b.getD 0 0) (b.getD 1 0)) (bits .andNot .u64 (b.getD 2 0) (b.getD 0 0)) else 0
structure RunS where
  G : Gr
  t : List Int
  ins : List Int
def runO (F H : Bool) (ws : List Int) (l : List ActV) : Nat → RunS
  | 0 => ⟨newG F H, [0, 1], []⟩
  | i + 1 => ⟨(callO (runO F H ws l i).G (l.getD i act0).what (bRow (runO F H ws l i).t (l.getD i act0).zs)).1,
      (runO F H ws l i).t ++ [(callO (runO F H ws l i).G (l.getD i act0).what (bRow (runO F H ws l i).t (l.getD i act0).zs)).2],
      insO ws i (l.getD i act0).what (runO F H ws l i).ins⟩
def meanO (ws : List Int) (l : List ActV) : Nat → List Int × List Int
  | 0 => ([0, MAXW], [])
  | i + 1 => ((meanO ws l i).1 ++ [callM ((insO ws i (l.getD i act0).what (meanO ws l i).2).getD (meanO ws l i).2.length 0) (l.getD i act0).what (bMean (meanO ws l i).1 (l.getD i act0).zs)],
      insO ws i (l.getD i act0).what (meanO ws l i).2)

theorem bRow_len (t zs : List Int) : (bRow t zs).length = min zs.length 4 + 3 := by unfold bRow; simp; omega
theorem pickN_lt (n : Int) {m : Nat} (h : 0 < m) : pickN n m < m := by
  unfold pickN
  have h1 := Int.emod_nonneg (n / 2) (b := (m : Int)) (by omega)
  have h2 := Int.emod_lt_of_pos (n / 2) (b := (m : Int)) (by omega)
  omega
theorem bRow_there {G : Gr} {t : List Int} (ht : AllThere G t) (h0 : 0 < t.length) (zs : List Int) : AllThere G (bRow t zs) := by
  intro y hy
  obtain ⟨n, -, rfl⟩ := List.mem_map.1 hy
  have := ht.at (pickN_lt n h0)
  unfold ifV
  split
  · exact this.not
  · exact this
theorem map_getD {f : Int → Int} (h0 : f 0 = 0) (t : List Int) (i : Nat) : (t.map f).getD i 0 = f (t.getD i 0) := by
  simp only [List.getD, List.getElem?_map]
  cases t[i]? with
  | none => exact h0.symm
  | some x => rfl
theorem bRow_mean (t zs E : List Int) : (bRow t zs).map (fun y => wordV y E) = bMean (t.map (fun y => wordV y E)) zs := by
  unfold bRow bMean
  rw [List.map_map]
  apply List.map_congr_left
  intro n _
  rw [List.length_map, map_getD (f := fun y => wordV y E) (wordV_0 E)]
  show wordV (ifV _ _) E = _
  unfold ifV
  split
  · rw [wordV_not]
  · rfl
theorem foldW_map (o : BinOp) (z : Int) (E l : List Int) : foldW o z E l = (l.map (fun y => wordV y E)).foldl (bits o .u64) z := by
  unfold foldW; rw [List.foldl_map]

theorem callO_good {G : Gr} (hW : Wf G) (hl : G.nodes.length ≤ 100000) {b : List Int} (hb : AllThere G b) (h8 : b.length ≤ 8) (h3 : 3 ≤ b.length) (k : Int) :
    Wf (callO G k b).1 ∧ Le G (callO G k b).1 ∧ There (callO G k b).1 (callO G k b).2 ∧ (callO G k b).1.nodes.length ≤ G.nodes.length + 24 := by
  unfold callO
  split
  · exact callG_good hW hl hb h8 h3 k
  · exact ⟨hW, Le.refl _, there_lit hW (.inl rfl), by simp only; omega⟩
theorem manyG_inputs {T : Gr → Int → Int → Gr × Int} {k : Nat} (hT : OpOk T k) {z : Int} {G : Gr} {b : List Int} (hW : Wf G) (hz : There G z) (hb : AllThere G b) (hl : G.nodes.length + k * b.length ≤ 9000000) : (manyG T z G b).1.inputs = G.inputs := (manyG_good hT hW hz hb hl).ins
/-- What a call means. -/
theorem callO_mean {G G' : Gr} {IN E : List Int} (hW : Wf G) (hl : G.nodes.length ≤ 100000) {b : List Int} (hb : AllThere G b) (h8 : b.length ≤ 8) (h3 : 3 ≤ b.length) (k : Int) (hL : Le (callO G k b).1 G') (v : Val G' IN E) (x : Int) (hx : k = 0 → IN.getD G.inputs.length 0 = x) :
    wordV (callO G k b).2 E = callM x k (b.map (fun y => wordV y E)) := by
  have t0 : There G (b.getD 0 0) := hb.at (by omega)
  have t1 : There G (b.getD 1 0) := hb.at (by omega)
  have t2 : There G (b.getD 2 0) := hb.at (by omega)
  unfold callO at hL ⊢
  split
  · rename_i hk
    rw [if_pos hk] at hL
    rcases hk with rfl | rfl | rfl | rfl | rfl
    · have v' := v.mono (G := inputG G) hL
      have e := v'.inp G.inputs.length G.nodes.length (by simp [inputG])
      show wordV (2 * (G.nodes.length : Int)) E = _
      rw [v'.node hW.pos (by rw [inputG_len]; omega), e]
      exact hx rfl
    · show wordV (manyG andG 1 G b).2 E = _
      rw [manyG_word (G' := G') and_ok and_word (W := MAXW) wordV_1 (fun x hx => ones_and hx) hW hb (by omega) hL v, foldW_map]
      rfl
    · show wordV (manyG orG 0 G b).2 E = _
      rw [manyG_word (G' := G') or_ok or_word (W := 0) wordV_0 (fun x hx => zero_or hx) hW hb (by omega) hL v, foldW_map]
      rfl
    · show wordV (manyG xorG 0 G b).2 E = _
      rw [manyG_word (G' := G') xor_ok xor_word (W := 0) wordV_0 (fun x hx => zero_xor hx) hW hb (by omega) hL v, foldW_map]
      rfl
    · show wordV (muxG G (b.getD 0 0) (b.getD 1 0) (b.getD 2 0)).2 E = _
      rw [muxG_word (G' := G') hW t0 t1 t2 (by omega) hL v]
      show _ = bits .or .u64 (bits .and .u64 ((b.map (fun y => wordV y E)).getD 0 0) ((b.map (fun y => wordV y E)).getD 1 0)) (bits .andNot .u64 ((b.map (fun y => wordV y E)).getD 2 0) ((b.map (fun y => wordV y E)).getD 0 0))
      rw [map_getD (f := fun y => wordV y E) (wordV_0 E), map_getD (f := fun y => wordV y E) (wordV_0 E), map_getD (f := fun y => wordV y E) (wordV_0 E)]
  · rename_i hk
    show wordV 0 E = _
    rw [wordV_0]
    unfold callM
    rw [if_neg (by omega), if_neg (by omega), if_neg (by omega), if_neg (by omega), if_neg (by omega)]
theorem callO_inputs {G : Gr} (hW : Wf G) (hl : G.nodes.length ≤ 100000) {b : List Int} (hb : AllThere G b) (h8 : b.length ≤ 8) (h3 : 3 ≤ b.length) (k : Int) : (callO G k b).1.inputs.length = if k = 0 then G.inputs.length + 1 else G.inputs.length := by
  have t0 : There G (b.getD 0 0) := hb.at (by omega)
  have t1 : There G (b.getD 1 0) := hb.at (by omega)
  have t2 : There G (b.getD 2 0) := hb.at (by omega)
  unfold callO
  split
  · rename_i hk
    rcases hk with rfl | rfl | rfl | rfl | rfl
    · simp [callG, inputG]
    · rw [if_neg (by omega)]; exact congrArg List.length (manyG_inputs and_ok hW (there_lit hW (.inr rfl)) hb (by omega))
    · rw [if_neg (by omega)]; exact congrArg List.length (manyG_inputs or_ok hW (there_lit hW (.inl rfl)) hb (by omega))
    · rw [if_neg (by omega)]; exact congrArg List.length (manyG_inputs xor_ok hW (there_lit hW (.inl rfl)) hb (by omega))
    · rw [if_neg (by omega)]; exact congrArg List.length (muxG_good hW t0 t1 t2 (by omega)).ins
  · rename_i hk
    rw [if_neg (by omega)]
theorem insO_len (ws : List Int) (i : Nat) (k : Int) (ins : List Int) : (insO ws i k ins).length = if k = 0 then ins.length + 1 else ins.length := by
  unfold insO; split <;> simp
theorem insO_old (ws : List Int) (i : Nat) (k : Int) (ins : List Int) (j : Nat) (hj : j < ins.length) : (insO ws i k ins).getD j 0 = ins.getD j 0 := by
  unfold insO; split
  · simp [List.getD, List.getElem?_append_left hj]
  · rfl
theorem insO_words {ws : List Int} (hw : Words ws) {i : Nat} (hi : i ≤ 1000) (k : Int) {ins : List Int} (h : Words ins) : Words (insO ws i k ins) := by
  unfold insO; split
  · intro j
    by_cases hj : j < ins.length
    · have := h j
      simp only [List.getD, List.getElem?_append_left hj] at this ⊢; exact this
    · by_cases e : j = ins.length
      · subst e
        have := hw ins.length
        simp [List.getD]
        simp [List.getD] at this
        split <;> omega
      · simp only [List.getD, List.getElem?_eq_none (show (ins ++ [_]).length ≤ j by simp; omega)]; simp
  · exact h

structure KindO (s : RunS) (M : List Int × List Int) (i : Nat) : Prop where
  wf : Wf s.G
  len : s.G.nodes.length ≤ 1 + 24 * i
  told : s.t.length = i + 2
  there : AllThere s.G s.t
  ins : s.ins = M.2
  inl : s.G.inputs.length = s.ins.length
  words : Words s.ins
  mean : ∀ (G' : Gr) (IN E : List Int), Le s.G G' → Val G' IN E → (∀ k, k < s.ins.length → IN.getD k 0 = s.ins.getD k 0) → s.t.map (fun y => wordV y E) = M.1

theorem runO_kind (F H : Bool) {ws : List Int} (hws : Words ws) (l : List ActV) : ∀ i, i ≤ 1000 → KindO (runO F H ws l i) (meanO ws l i) i := by
  intro i
  induction i with
  | zero =>
    intro _
    refine ⟨Wf_new F H, by simp [runO, newG], rfl, ?_, rfl, rfl, fun j => by simp [runO, List.getD], ?_⟩
    · intro x hx
      have hx : x = 0 ∨ x = 1 := by simpa [runO] using hx
      exact there_lit (Wf_new F H) hx
    · intro G' IN E _ _ _
      show [wordV 0 E, wordV 1 E] = [0, MAXW]
      rw [wordV_0, wordV_1]
  | succ i ih =>
    intro hi
    have h := ih (by omega)
    have hl := h.len
    have ht := h.told
    have hB := bRow_there h.there (by omega) (l.getD i act0).zs
    have hbl := bRow_len (runO F H ws l i).t (l.getD i act0).zs
    obtain ⟨g1, g2, g3, g4⟩ := callO_good h.wf (by omega) hB (by omega) (by omega) (l.getD i act0).what
    have gi := callO_inputs h.wf (by omega) hB (by omega) (by omega) (l.getD i act0).what
    refine ⟨g1, ?_, ?_, ?_, ?_, ?_, ?_, ?_⟩
    · show (callO _ _ _).1.nodes.length ≤ _; omega
    · show (_ ++ [_] : List Int).length = _; simp; omega
    · intro x hx
      have hx : x ∈ (runO F H ws l i).t ++ [_] := hx
      rcases List.mem_append.1 hx with hx | hx
      · exact g2.there (h.there x hx)
      · simp at hx; subst hx; exact g3
    · show insO ws i _ _ = insO ws i _ _; rw [h.ins]
    · show (callO _ _ _).1.inputs.length = (insO ws i _ _).length
      rw [gi, insO_len, h.inl]
    · exact insO_words hws (by omega) _ h.words
    · intro G' IN E hL v hin
      have hin : ∀ k, k < (insO ws i (l.getD i act0).what (runO F H ws l i).ins).length → IN.getD k 0 = (insO ws i (l.getD i act0).what (runO F H ws l i).ins).getD k 0 := hin
      have e1 := h.mean G' IN E (g2.trans hL) v (fun k hk => by
        rw [hin k (by rw [insO_len]; split <;> omega), insO_old _ _ _ _ _ hk])
      show ((runO F H ws l i).t ++ [_]).map _ = (meanO ws l i).1 ++ [_]
      rw [List.map_append, e1]
      congr 1
      show [wordV (callO _ _ _).2 E] = _
      rw [callO_mean h.wf (by omega) hB (by omega) (by omega) _ hL v ((insO ws i (l.getD i act0).what (meanO ws l i).2).getD (meanO ws l i).2.length 0) (fun hk => by
        rw [h.inl, hin _ (by rw [insO_len, if_pos hk]; omega), h.ins]), bRow_mean, e1]
end Go.Proofs.Ytlbmbpkabmihnaa
