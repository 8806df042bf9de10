/-
  TraceForm: Put and Get by cases; a box made and filled; how long a text is.
-/
import Derived.Test.YtnhpjacodhdpeaaDoorTfS
import Derived.Test.YtnhpjacodhdpeaaDoorTrV
namespace Go.Proofs.YtnhpjacodhdpeaaDoor
open Go.RowKit Go.Maps Bits
set_option maxRecDepth 100000

theorem Put_no {w : World} {a a2 : Option Addr} {n m : Nat} {L : List TB} {R : List (List Int)} (h : BsR w a n L) (h2 : RRk .u64 w a2 m R) (c c2 : Nat) (hc : n ≤ c) (hz : TZ w) (hW : ∀ i, Words (R.getD i [])) (k : mayT L R = false) :
    Calls Tryd.prog 12 #[.agg #[.slice a n c, .slice a2 m c2]] w fun e w' => e = .returned (.tuple #[.slice none 0 0, .int .i64 1]) ∧ Below w.heap.size w w' :=
  (Put_any h h2 c c2 hc hz hW).mono (fun e w' ⟨h, hb⟩ => by unfold PutOk at h; rw [k] at h; exact ⟨by simpa using h, hb⟩)
theorem Put_yes {w : World} {a a2 : Option Addr} {n m : Nat} {L : List TB} {R : List (List Int)} (h : BsR w a n L) (h2 : RRk .u64 w a2 m R) (c c2 : Nat) (hc : n ≤ c) (hz : TZ w) (hW : ∀ i, Words (R.getD i [])) (k : mayT L R = true) :
    Calls Tryd.prog 12 #[.agg #[.slice a n c, .slice a2 m c2]] w fun e w' => ∃ v, e = .returned (.tuple #[v, .int .i64 0]) ∧ TX w' w.heap.size v (putT L R) ∧ Below w.heap.size w w' :=
  (Put_any h h2 c c2 hc hz hW).mono (fun e w' ⟨h, hb⟩ => by unfold PutOk at h; rw [k, if_pos rfl] at h; obtain ⟨v, e1, e2⟩ := h; exact ⟨v, e1, e2, hb⟩)
theorem getP_eq {l : List UInt8} (h : l.length ≤ 16777216) : getP l = tableP l := by unfold getP; rw [if_neg (by omega)]
theorem Get_err {w : World} {a : Option Addr} {n e0 : Nat} {l : List UInt8} (h : BR w a n l) (c : Nat) (hc : n ≤ c) (hcm : c ≤ 9223372036854775807) (hll : n ≤ 16777216) (k : tableP l = .error e0) :
    Calls Tryd.prog 29 #[.slice a n c] w fun e w' => e = .returned (.tuple #[.agg #[.slice none 0 0, .slice none 0 0], .int .i64 (e0 : Int)]) ∧ Below w.heap.size w w' :=
  (Get_any h c hc hcm hll).mono (fun e w' ⟨g, hb⟩ => by rw [getP_eq (by rw [h.1]; exact hll), k] at g; exact ⟨g, hb⟩)
theorem Get_ok {w : World} {a : Option Addr} {n : Nat} {l : List UInt8} {L : List TB} {R : List (List Int)} (h : BR w a n l) (c : Nat) (hc : n ≤ c) (hcm : c ≤ 9223372036854775807) (hll : n ≤ 16777216) (k : tableP l = .ok (L, R)) :
    Calls Tryd.prog 29 #[.slice a n c] w fun e w' => ∃ b1 d1 b2 d2, e = .returned (.tuple #[.agg #[.slice b1 L.length d1, .slice b2 R.length d2], .int .i64 0]) ∧ L.length ≤ d1 ∧ R.length ≤ d2 ∧ BsR w' b1 L.length L ∧ RRk .u64 w' b2 R.length R ∧ TabV w' w.heap.size (.slice b1 L.length d1) (.slice b2 R.length d2) L R ∧ Below w.heap.size w w' :=
  (Get_any h c hc hcm hll).mono (fun e w' ⟨g, hb⟩ => by
    rw [getP_eq (by rw [h.1]; exact hll), k] at g
    obtain ⟨va, v2, e1, hT⟩ := g
    obtain ⟨m1, m2, -⟩ := tableP_inv k
    obtain ⟨q1, q2, q3⟩ := mayT_of m1
    obtain ⟨q4, q5, -⟩ := busesT_of q1
    obtain ⟨y1, y2, y3, y4, rfl, rfl, g1, g2, g3⟩ := hT.ins (by omega) (by omega) (fun i hi => by have := (q3 i hi).1; omega)
    obtain ⟨kv, hkv, -⟩ := hT.rows
    exact ⟨y1, y2, y3, y4, e1, g1, (own_cap hkv).1, g2, g3, hT, hb⟩)
theorem sameR_self (R : List (List Int)) : sameR R R = true := by
  unfold sameR
  simp only [decide_true, Bool.true_and]
  refine range_all fun i _ => ?_
  simp [sameL]
theorem same_self (L : List TB) (R : List (List Int)) : (sameB L L && sameR R R) = true := by rw [sameB_self, sameR_self]; rfl
theorem BsR.none (w : World) : BsR w .none 0 [] := ⟨rfl, by omega, .inl rfl⟩
theorem RRk.none (w : World) : RRk .u64 w .none 0 [] := ⟨rfl, by omega, .inl rfl⟩
/-- A new box for a table, filled. -/
theorem tnew {W : World} {u v : Value} : ∀ x, x = W.alloc (.cells #[u, v] 25) →
    Below W.heap.size W x ∧ W.heap.size < x.heap.size ∧ x.heap[W.heap.size]? = some (.cells #[u, v] 25 (0, 0)) ∧ x.cell? ⟨W.heap.size, 0, none⟩ = some u ∧ x.cell? ⟨W.heap.size, 1, none⟩ = some v := by
  rintro x rfl
  have h0 := heap_alloc_new W (.cells #[u, v] 25)
  exact ⟨(Below.refl _ _).alloc (Nat.le_refl _) _, by simp, h0, cell_of_heap h0 0 u rfl, cell_of_heap h0 1 v rfl⟩
/-- A table in a variable's box: written over. -/
theorem tset {w w5 : World} {k : Nat} {u v u' v' : Value} (h : w5.heap[k]? = some (.cells #[u, v] 25 (0, 0))) (hB : Below w.heap.size w w5) (hk : w.heap.size ≤ k) :
    ∀ x, x = (w5.setCell ⟨k, 0, none⟩ u').setCell ⟨k, 1, none⟩ v' → x.heap[k]? = some (.cells #[u', v'] 25 (0, 0)) ∧ Below w.heap.size w x ∧ Below k w5 x ∧ KR k w5 x := by
  rintro x rfl
  have e1 : (w5.setCell ⟨k, 0, none⟩ u').heap[k]? = some (.cells #[u', v] 25 (0, 0)) := by
    rw [setCell_eq_setRow w5 k 0 _ _ _ _ h, setRow_heap w5 k _ _ _ _ h]; rfl
  refine ⟨?_, ?_, ?_, ?_⟩
  · rw [setCell_eq_setRow _ k 1 _ _ _ _ e1, setRow_heap _ k _ _ _ _ e1]; rfl
  · exact (hB.setCell (p := ⟨k, 0, none⟩) hk _).setCell (p := ⟨k, 1, none⟩) hk _
  · exact ((Below.refl k w5).setCell (p := ⟨k, 0, none⟩) (Nat.le_refl _) _).setCell (p := ⟨k, 1, none⟩) (Nat.le_refl _) _
  · refine ⟨rfl, rfl, rfl, by simp, fun j _ hj => ?_⟩
    rw [Below.heap_setCell _ _ _ _ hj, Below.heap_setCell _ _ _ _ hj]
/-- A table that a call has made is not in that box. -/
theorem TabV.box {w x : World} {base k : Nat} {va v2 : Value} {L : List TB} {G : List (List Int)} {cs : Array Value} {zz : Nat × Nat} (h : TabV w base va v2 L G) (hk : w.heap[k]? = some (.cells cs 25 zz)) (hx : KR k w x) : TabV x base va v2 L G := by
  have hF : ∀ T, T ≠ 25 → ∀ j, j = k → ∃ cur T' z, w.heap[j]? = some (.cells cur T' z) ∧ T' ≠ T := by
    rintro T hT j rfl
    exact ⟨_, _, _, hk, fun e => hT e.symm⟩
  obtain ⟨kv, h1, h2⟩ := h.rows
  refine ⟨own_other h.bus hx (hF _ (by decide)), kv, own_other h1 hx (hF _ (by decide)), fun i hi => ?_⟩
  obtain ⟨y, e1, e2⟩ := h2 i hi
  exact ⟨y, e1, own_other e2 hx (hF _ (by decide))⟩

theorem words_of_may {L : List TB} {R : List (List Int)} (h : mayT L R = true) (hn : NN R) : ∀ i, Words (R.getD i []) := by
  obtain ⟨q1, q2, q3⟩ := mayT_of h
  intro i j
  by_cases hi : i < R.length
  · obtain ⟨e1, e2⟩ := q3 i hi
    by_cases hj : j < (R.getD i []).length
    · have := e2 j (by omega)
      have hb := (topT_bd (L.getD j tb0).width).2
      have h0 := hn (R.getD i []) (by simp [List.getD, hi]) ((R.getD i []).getD j 0) (by
        have e : (R.getD i []).getD j 0 = (R.getD i [])[j] := by rw [List.getD_eq_getElem?_getD, List.getElem?_eq_getElem hj]; rfl
        rw [e]; exact List.getElem_mem hj)
      omega
    · have e : (R.getD i []).getD j 0 = 0 := by rw [List.getD_eq_getElem?_getD, List.getElem?_eq_none (by omega)]; rfl
      rw [e]; omega
  · have e : R.getD i [] = [] := by rw [List.getD_eq_getElem?_getD, List.getElem?_eq_none (by omega)]; rfl
    rw [e]; simp
theorem wordsT_len : ∀ (ws : List (List UInt8)) (M : Nat), (∀ x ∈ ws, x.length ≤ M) → (wordsT ws).length ≤ (M + 1) * ws.length := by
  intro ws
  induction ws with
  | nil => intro M _; simp [wordsT]
  | cons x ws ih =>
    intro M h
    have h1 := ih M (fun y hy => h y (by simp [hy]))
    have h2 := h x (by simp)
    have e : (wordsT (x :: ws)).length = x.length + 1 + (wordsT ws).length := by simp [wordsT]; omega
    rw [e, List.length_cons, Nat.mul_add]
    omega
theorem lineT_len {ws : List (List UInt8)} {M : Nat} (h : ∀ x ∈ ws, x.length ≤ M) : (lineT ws).length ≤ (M + 1) * ws.length + 1 := by
  have := wordsT_len ws M h
  simp [lineT]
  omega
theorem flat_len {α β : Type} (f : α → List β) : ∀ (R : List α) (M : Nat), (∀ r ∈ R, (f r).length ≤ M) → (R.flatMap f).length ≤ M * R.length := by
  intro R
  induction R with
  | nil => intro M _; simp
  | cons r R ih =>
    intro M h
    have h1 := ih M (fun y hy => h y (by simp [hy]))
    have h2 := h r (by simp)
    rw [List.flatMap_cons, List.length_append, List.length_cons, Nat.mul_add]
    omega
theorem putT_len {L : List TB} {R : List (List Int)} (h : mayT L R = true) (hn : NN R) (hL : L.length ≤ 20) (hR : R.length ≤ 30) : 0 < (putT L R).length ∧ (putT L R).length ≤ 20000 := by
  obtain ⟨q1, q2, q3⟩ := mayT_of h
  obtain ⟨q4, q5, q6⟩ := busesT_of q1
  have hw := words_of_may h hn
  have h1 : (headT L).length ≤ 37 * 20 + 1 := by
    have := lineT_len (ws := L.map busW) (M := 36) (by
      intro x hx
      obtain ⟨B, hB, rfl⟩ := List.mem_map.1 hx
      obtain ⟨i, hi, rfl⟩ := List.getElem_of_mem hB
      have hb := (nameT_size (q6 i hi).1).2
      have e : L.getD i tb0 = L[i] := by simp [List.getD, hi]
      rw [e] at hb
      have hd := decT_len L[i].width.toNat
      have e2 : L[i].name.size = L[i].name.data.toList.length := rfl
      unfold busW
      simp only [List.length_append, List.length_cons, List.length_nil]
      omega)
    rw [List.length_map] at this
    unfold headT
    have h5 : 37 * L.length ≤ 37 * 20 := Nat.mul_le_mul_left _ hL
    omega
  have h2 : (R.flatMap rowT).length ≤ (17 * 20 + 1) * 30 := by
    have := flat_len rowT R (17 * 20 + 1) (by
      intro r hr
      obtain ⟨i, hi, rfl⟩ := List.getElem_of_mem hr
      have hl := (q3 i hi).1
      have e : R.getD i [] = R[i] := by simp [List.getD, hi]
      rw [e] at hl
      have hwi := hw i
      rw [e] at hwi
      have := lineT_len (ws := R[i].map numW) (M := 16) (by
        intro x hx
        obtain ⟨z, hz, rfl⟩ := List.mem_map.1 hx
        obtain ⟨j, hj, rfl⟩ := List.getElem_of_mem hz
        have := hwi j
        have e3 : R[i].getD j 0 = R[i][j] := by simp [List.getD, hj]
        rw [e3] at this
        exact hexD_len (by omega))
      rw [List.length_map] at this
      unfold rowT
      have h5 : 17 * R[i].length ≤ 17 * 20 := Nat.mul_le_mul_left _ (by omega)
      omega)
    have h5 : (17 * 20 + 1) * R.length ≤ (17 * 20 + 1) * 30 := Nat.mul_le_mul_left _ hR
    omega
  unfold putT
  rw [List.length_append]
  have h0 : 0 < (headT L).length := by simp [headT, lineT]
  omega
theorem BR.cell {w : World} {g o n : Nat} {l : List UInt8} (h : BR w (some ⟨g, o, none⟩) n l) {i : Nat} (hi : i < n) : w.cell? ⟨g, o + i, none⟩ = some (.int .u8 ((l.getD i 0).toNat : Int)) := by
  obtain ⟨-, -, h3⟩ := h
  rcases h3 with h3 | ⟨b, off, e, -, hc⟩
  · omega
  · cases e; exact hc i hi
/-- What is read of a text that is cut short. -/
def CutIs (L : List TB) (R : List (List Int)) (q : List UInt8) (L8 : List TB) (R8 : List (List Int)) (e8 : Nat) : Prop :=
  (q.getLast? = some 10 → e8 = 0 ∧ 1 ≤ q.count 10 ∧ q.count 10 - 1 ≤ R.length ∧ L8 = L ∧ R8 = R.take (q.count 10 - 1)) ∧ (q.getLast? ≠ some 10 → e8 = 4)
theorem Get_cut {w : World} {a : Option Addr} {n : Nat} {q : List UInt8} {L : List TB} {R : List (List Int)} (h : BR w a n q) (c : Nat) (hc : n ≤ c) (hcm : c ≤ 9223372036854775807) (hll : n ≤ 16777216)
    (k : (q.getLast? = some 10 → 1 ≤ q.count 10 ∧ q.count 10 - 1 ≤ R.length ∧ tableP q = .ok (L, R.take (q.count 10 - 1))) ∧ (q.getLast? ≠ some 10 → tableP q = .error 4)) :
    Calls Tryd.prog 29 #[.slice a n c] w fun e w' => ∃ b1 d1 b2 d2 L8 R8 e8, e = .returned (.tuple #[.agg #[.slice b1 (List.length L8) d1, .slice b2 (List.length R8) d2], .int .i64 ((e8 : Nat) : Int)]) ∧ BsR w' b1 L8.length L8 ∧ RRk .u64 w' b2 R8.length R8 ∧ CutIs L R q L8 R8 e8 ∧ Below w.heap.size w w' := by
  by_cases hq : q.getLast? = some 10
  · obtain ⟨k1, k2, k3⟩ := k.1 hq
    exact (Get_ok h c hc hcm hll k3).mono (fun e w' ⟨b1, d1, b2, d2, e1, _, _, g1, g2, _, hb⟩ => ⟨b1, d1, b2, d2, _, _, 0, by simpa using e1, g1, g2, ⟨fun _ => ⟨rfl, k1, k2, rfl, rfl⟩, fun e => absurd hq e⟩, hb⟩)
  · exact (Get_err h c hc hcm hll (k.2 hq)).mono (fun e w' ⟨e1, hb⟩ => ⟨none, 0, none, 0, [], [], 4, by simpa using e1, BsR.none _, RRk.none _, ⟨fun e => absurd e hq, fun _ => rfl⟩, hb⟩)
/-- What lies there while a text is tried: the table's variable, what was read of it whole (p9) and cut short (p12), the text. -/
structure FF (w0 wk : World) (p9 p12 g3 : Nat) (z1 z3 b1 b2 b3 b4 : Option Addr) (z2 z4 x1 x2 x3 x4 : Nat) (L : List TB) (R : List (List Int)) (L8 : List TB) (R8 : List (List Int)) (tx : List UInt8) : Prop where
  low : Below w0.heap.size w0 wk
  q0 : wk.cell? ⟨w0.heap.size, 0, none⟩ = some (.slice z1 L.length z2)
  q1 : wk.cell? ⟨w0.heap.size, 1, none⟩ = some (.slice z3 R.length z4)
  t0 : wk.cell? ⟨p9, 0, none⟩ = some (.slice b1 L.length x1)
  t1 : wk.cell? ⟨p9, 1, none⟩ = some (.slice b2 R.length x2)
  s0 : wk.cell? ⟨p12, 0, none⟩ = some (.slice b3 L8.length x3)
  s1 : wk.cell? ⟨p12, 1, none⟩ = some (.slice b4 R8.length x4)
  T : BsR wk z1 L.length L
  U : RRk .u64 wk z3 R.length R
  v : BsR wk b1 L.length L
  y : RRk .u64 wk b2 R.length R
  m : BsR wk b3 L8.length L8
  n : RRk .u64 wk b4 R8.length R8
  r : BR wk (some ⟨g3, 0, none⟩) tx.length tx
theorem FF.step {w0 wk w' : World} {p9 p12 g3 : Nat} {z1 z3 b1 b2 b3 b4 : Option Addr} {z2 z4 x1 x2 x3 x4 : Nat} {L : List TB} {R : List (List Int)} {L8 : List TB} {R8 : List (List Int)} {tx : List UInt8} (h : FF w0 wk p9 p12 g3 z1 z3 b1 b2 b3 b4 z2 z4 x1 x2 x3 x4 L R L8 R8 tx) (hb : Below wk.heap.size wk w') :
    FF w0 w' p9 p12 g3 z1 z3 b1 b2 b3 b4 z2 z4 x1 x2 x3 x4 L R L8 R8 tx := by
  have st : ∀ {p : Nat} {o : Nat} {u : Value}, wk.cell? ⟨p, o, none⟩ = some u → w'.cell? ⟨p, o, none⟩ = some u := fun h => stepc hb (World.block_lt_of_cell? wk _ h) h
  exact ⟨nextw h.low hb, st h.q0, st h.q1, st h.t0, st h.t1, st h.s0, st h.s1, h.T.step hb, h.U.step hb, h.v.step hb, h.y.step hb, h.m.step hb, h.n.step hb, h.r.step hb⟩
theorem last_iff {l : List UInt8} {K : Nat} (hK : K ≤ l.length) : (l.take K).getLast? = some 10 ↔ 0 < K ∧ l.getD (K - 1) 0 = 10 := by
  rw [List.getLast?_eq_getElem?, List.length_take, Nat.min_eq_left hK]
  by_cases h0 : 0 < K
  · rw [List.getElem?_take_of_lt (by omega), List.getElem?_eq_getElem (by omega)]
    simp [List.getD, h0, show K - 1 < l.length by omega]
  · obtain rfl : K = 0 := by omega
    simp
end Go.Proofs.YtnhpjacodhdpeaaDoor
