/-
  TracePacked, plainly: tables turned round; rows as values; what a lane has.
-/
import Derived.Test.YtnhpjacodhdpeaaDoorTpQ
import Derived.Test.YtnhpjacodhdpeaaDoorTfT
import Derived.Deep.AppendLies
import Derived.Maps.AppendAt
namespace Go.Proofs.YtnhpjacodhdpeaaDoor
open Go.RowKit Go.Maps Bits
set_option maxRecDepth 100000

theorem laneN_bit' (f : Nat → Nat) (l t : Nat) : ∀ k, (laneN f l k).testBit t = (decide (t < k) && (f t).testBit l)
  | 0 => by simp [laneN]
  | k + 1 => by
    have e : laneN f l (k + 1) = 2 ^ k * (f k / 2 ^ l % 2) + laneN f l k := by show laneN f l k + f k / 2 ^ l % 2 * 2 ^ k = _; rw [Nat.mul_comm, Nat.add_comm]
    rw [e, Nat.testBit_two_pow_mul_add _ (laneN_lt f l k), laneN_bit' f l t k]
    by_cases h : t < k
    · rw [if_pos h]; simp [h, show t < k + 1 by omega]
    · rw [if_neg h]
      by_cases h2 : t = k
      · subst h2
        rw [bit_shift, Nat.sub_self]
        cases (f t).testBit l <;> simp
      · have h3 : (f k / 2 ^ l % 2).testBit (t - k) = false := by
          apply Nat.testBit_lt_two_pow
          have : 2 ^ 1 ≤ 2 ^ (t - k) := Nat.pow_le_pow_right (by decide) (by omega)
          have := Nat.mod_lt (f k / 2 ^ l) (show 2 > 0 by decide)
          omega
        rw [h3]; simp [show ¬ t < k + 1 by omega]
theorem cutAt_bit' (n : Nat) (f : Nat → Nat) (i j : Nat) : (cutAt n f i).testBit j = (decide (i < n) && (f i).testBit j) := by
  unfold cutAt; split <;> simp [*]
theorem lane_word' {n k : Nat} {F : Nat → Nat} (hn : n ≤ 64) (hF : ∀ i, i < k → F i < 2 ^ n) {i : Nat} (hi : i < 64) : laneN (turn (cutAt k F)) i n = cutAt k F i := by
  have h64 : (2 : Nat) ^ n ≤ 18446744073709551616 := by have := Nat.pow_le_pow_right (n := 2) (by decide) hn; simpa using this
  have hc : cutAt k F i < 2 ^ n := by
    unfold cutAt; split
    · exact hF i ‹_›
    · exact Nat.pos_of_ne_zero (by simp)
  refine word_ext (Nat.lt_of_lt_of_le (laneN_lt _ i n) h64) (Nat.lt_of_lt_of_le hc h64) (fun j hj => ?_)
  rw [laneN_bit', turn_bit _ hj hi]
  by_cases hjn : j < n
  · simp [hjn]
  · have : (cutAt k F i).testBit j = false := Nat.testBit_lt_two_pow (Nat.lt_of_lt_of_le hc (Nat.pow_le_pow_right (by decide) (by omega)))
    rw [this]; simp

/-- A row of rows, turned round. -/
def rotP (R : List (List Int)) (i : Nat) : List (List Int) := R.drop (i % R.length) ++ R.take (i % R.length / 2)
def rotT (L : List TB) (R : List (List Int)) (i : Nat) : TT := (L, rotP R i)
def rotTs (L : List TB) (R : List (List Int)) (m : Nat) : List TT := (List.range m).map (rotT L R)
theorem rotTs_len (L : List TB) (R : List (List Int)) (m : Nat) : (rotTs L R m).length = m := by simp [rotTs]
theorem rotTs_at (L : List TB) (R : List (List Int)) {m i : Nat} (h : i < m) : (rotTs L R m).getD i tt0 = (L, rotP R i) := by simp [rotTs, List.getD, h, rotT]
theorem rotP_len (R : List (List Int)) (i : Nat) (h : 0 < R.length) : (rotP R i).length = R.length - i % R.length + i % R.length / 2 ∧ 0 < (rotP R i).length ∧ (rotP R i).length ≤ R.length := by
  have hk : i % R.length < R.length := Nat.mod_lt _ h
  have e : (rotP R i).length = R.length - i % R.length + i % R.length / 2 := by
    unfold rotP
    rw [List.length_append, List.length_drop, List.length_take]
    omega
  refine ⟨e, ?_, ?_⟩ <;> omega
theorem rotP_zero (R : List (List Int)) : rotP R 0 = R := by simp [rotP]
theorem rot_may {L : List TB} {R : List (List Int)} (h : mayT L R = true) (hn : NN R) (h0 : 0 < R.length) (i : Nat) : mayT L (rotP R i) = true ∧ NN (rotP R i) := by
  obtain ⟨h1, h4, h5⟩ := (mayT_iff L R).1 ⟨h, hn⟩
  refine (mayT_iff L (rotP R i)).2 ⟨h1, by have := (rotP_len R i h0).2.2; omega, fun r hr => h5 r ?_⟩
  unfold rotP at hr
  rcases List.mem_append.1 hr with hr | hr
  · exact List.mem_of_mem_drop hr
  · exact List.mem_of_mem_take hr
theorem rot_good {L : List TB} {R : List (List Int)} (h : mayT L R = true) (hn : NN R) (h0 : 0 < R.length) {m : Nat} (hm : 0 < m) : ∀ i, i < m → goodT (rotTs L R m) i = true := by
  intro i hi
  unfold goodT
  rw [rotTs_at L R hi, rotTs_at L R hm, sameB_self, (rot_may h hn h0 i).1]
  rfl
theorem rot_nn {L : List TB} {R : List (List Int)} (h : mayT L R = true) (hn : NN R) (h0 : 0 < R.length) {m : Nat} : ∀ i, i < m → NN ((rotTs L R m).getD i tt0).2 := by
  intro i hi
  rw [rotTs_at L R hi]
  exact (rot_may h hn h0 i).2
theorem rot_max (L : List TB) (R : List (List Int)) (m : Nat) : ∀ j, 0 < j → j ≤ m → R.length ≤ maxT (rotTs L R m) j := by
  intro j
  induction j with
  | zero => intro h; omega
  | succ j ih =>
    intro _ hj
    simp only [maxT]
    by_cases e : j = 0
    · subst e
      rw [rotTs_at L R (by omega), rotP_zero]
      exact Nat.le_max_right _ _
    · have := ih (by omega) (by omega)
      omega
theorem rot_packE {L : List TB} {R : List (List Int)} (h : mayT L R = true) (hn : NN R) (h0 : 0 < R.length) {m : Nat} (hm : 0 < m) {r : Nat} (hr : r < R.length) : packE (rotTs L R m) m (r : Int) = 0 := by
  unfold packE
  rw [range_all (rot_good h hn h0 hm), if_neg (by simp), if_pos]
  have := rot_max L R m m hm (Nat.le_refl _)
  omega
/-- Rows as values: what a slice of rows holds. -/
def VR (w : World) (kv : List Value) (N : List (List Int)) : Prop :=
  kv.length = N.length ∧ ∀ i, i < N.length → ∃ ai ci, kv[i]? = some (.slice ai (N.getD i []).length ci) ∧ (N.getD i []).length ≤ ci ∧ ci ≤ 9223372036854775807 ∧ Row .u64 w ai (N.getD i []).length (N.getD i [])
theorem VR.step {w w' : World} {kv : List Value} {N : List (List Int)} (h : VR w kv N) (hb : Below w.heap.size w w') : VR w' kv N :=
  ⟨h.1, fun i hi => by obtain ⟨ai, ci, h1, h2, h3, h4⟩ := h.2 i hi; exact ⟨ai, ci, h1, h2, h3, h4.step hb⟩⟩
theorem VR.one {w : World} {kv : List Value} {N : List (List Int)} (h : VR w kv N) : ∀ u ∈ kv, u.oneCell' = true := by
  intro u hu
  obtain ⟨i, hi, rfl⟩ := List.getElem_of_mem hu
  obtain ⟨ai, ci, h1, -⟩ := h.2 i (by rw [← h.1]; exact hi)
  rw [List.getElem?_eq_getElem hi] at h1
  rw [Option.some.inj h1]; rfl
theorem VR.drop {w : World} {kv : List Value} {N : List (List Int)} (h : VR w kv N) (k : Nat) : VR w (kv.drop k) (N.drop k) := by
  refine ⟨by simp [h.1], fun i hi => ?_⟩
  rw [List.length_drop] at hi
  have e : (N.drop k).getD i [] = N.getD (k + i) [] := by simp [List.getD]
  rw [e, List.getElem?_drop]
  exact h.2 (k + i) (by omega)
theorem VR.take {w : World} {kv : List Value} {N : List (List Int)} (h : VR w kv N) (k : Nat) : VR w (kv.take k) (N.take k) := by
  refine ⟨by simp [h.1], fun i hi => ?_⟩
  rw [List.length_take] at hi
  have e : (N.take k).getD i [] = N.getD i [] := by rw [List.getD_eq_getElem?_getD, List.getElem?_take_of_lt (by omega), ← List.getD_eq_getElem?_getD]
  rw [e, List.getElem?_take_of_lt (by omega)]
  exact h.2 i (by omega)
theorem VR.app {w : World} {kv kw : List Value} {N M : List (List Int)} (h : VR w kv N) (k : VR w kw M) : VR w (kv ++ kw) (N ++ M) := by
  refine ⟨by simp [h.1, k.1], fun i hi => ?_⟩
  rw [List.length_append] at hi
  have h1 := h.1
  by_cases e : i < N.length
  · have e2 : (N ++ M).getD i [] = N.getD i [] := by rw [List.getD_eq_getElem?_getD, List.getElem?_append_left e, ← List.getD_eq_getElem?_getD]
    rw [e2, List.getElem?_append_left (by omega)]
    exact h.2 i e
  · have e2 : (N ++ M).getD i [] = M.getD (i - N.length) [] := by rw [List.getD_eq_getElem?_getD, List.getElem?_append_right (by omega), ← List.getD_eq_getElem?_getD]
    rw [e2, List.getElem?_append_right (by omega), h1]
    exact k.2 (i - N.length) (by omega)
theorem RRk.vals {w : World} {a : Option Addr} {n : Nat} {N : List (List Int)} (h : RRk .u64 w a n N) : ∃ kv, VR w kv N ∧ ∀ b off, a = some ⟨b, off, Option.none⟩ → ∀ i, i < n → ∃ u, kv[i]? = some u ∧ w.cell? ⟨b, off + i, Option.none⟩ = some u := by
  obtain ⟨h1, h2, h3⟩ := h
  rcases h3 with h3 | ⟨b, off, rfl, hb, hc⟩
  · subst h3
    obtain rfl : N = [] := List.eq_nil_of_length_eq_zero h1
    exact ⟨[], ⟨rfl, fun i hi => by simp at hi⟩, fun b off _ i hi => by omega⟩
  · obtain ⟨kv, hk, hP⟩ := choose_list (α := Value) (.slice .none 0 0) (n := n) (p := fun i u => ∃ ai ci, u = .slice ai (N.getD i []).length ci ∧ w.cell? ⟨b, off + i, Option.none⟩ = some u ∧ (N.getD i []).length ≤ ci ∧ ci ≤ 9223372036854775807 ∧ Row .u64 w ai (N.getD i []).length (N.getD i [])) (fun i hi => by
      obtain ⟨ai, ci, g1, g2, g3, g4⟩ := hc i hi
      exact ⟨_, ai, ci, rfl, g1, g2, g3, g4⟩)
    have hat : ∀ i, i < n → kv[i]? = some (kv.getD i (.slice .none 0 0)) := fun i hi => by simp [List.getD, show i < kv.length by omega]
    refine ⟨kv, ⟨by omega, fun i hi => ?_⟩, fun b' off' e i hi => ?_⟩
    · obtain ⟨ai, ci, g1, g2, g3, g4, g5⟩ := hP i (by omega)
      exact ⟨ai, ci, by rw [hat i (by omega), g1], g3, g4, g5⟩
    · cases e
      obtain ⟨ai, ci, g1, g2, g3, g4, g5⟩ := hP i hi
      exact ⟨_, hat i hi, g2⟩
theorem RRk.of_own {w : World} {base n cap : Nat} {a : Option Addr} {kv : List Value} {N : List (List Int)} (h : w.ownsRow base 37 1 (.slice a n cap) n kv) (hv : VR w kv N) (hn : N.length = n) (hm : n ≤ 9223372036854775807) : RRk .u64 w a n N := by
  refine ⟨hn, hm, ?_⟩
  by_cases h0 : n = 0
  · exact .inl h0
  · right
    obtain ⟨g, c2, e⟩ := own_form h (by omega)
    rw [e] at h
    simp only [Value.slice.injEq] at e
    refine ⟨g, 0, e.1, own_lt h, fun i hi => ?_⟩
    obtain ⟨ai, ci, g1, g2, g3, g4⟩ := hv.2 i (by omega)
    refine ⟨ai, ci, ?_, g2, g3, g4⟩
    rw [Nat.zero_add, h.cellAt (j := i) (by omega)]
    exact g1
/-- The cells of tables that have one row of buses. -/
def tcs (u : Value) (kv : List Value) : List Value := kv.flatMap (fun x => [u, x])
theorem tcs_len (u : Value) (kv : List Value) : (tcs u kv).length = kv.length * 2 := by
  induction kv with
  | nil => rfl
  | cons k K ih => rw [show tcs u (k :: K) = [u, k] ++ tcs u K from rfl, List.length_append, ih]; simp; omega
theorem tcs_push (u x : Value) (kv : List Value) : tcs u (kv ++ [x]) = tcs u kv ++ [u, x] := by simp [tcs]
theorem tcs_at (u : Value) (kv : List Value) (i : Nat) {x : Value} (h : kv[i]? = some x) : (tcs u kv)[2 * i]? = some u ∧ (tcs u kv)[2 * i + 1]? = some x := by
  induction kv generalizing i with
  | nil => simp at h
  | cons m K ih =>
    rw [show tcs u (m :: K) = [u, m] ++ tcs u K from rfl]
    match i with
    | 0 => simp at h; subst h; exact ⟨rfl, rfl⟩
    | i + 1 =>
      have := ih i (by simpa using h)
      exact ⟨by rw [show 2 * (i + 1) = 2 * i + 2 by omega, List.getElem?_append_right (by simp)]; simpa using this.1, by rw [show 2 * (i + 1) + 1 = 2 * i + 1 + 2 by omega, List.getElem?_append_right (by simp)]; simpa using this.2⟩
def rotV (kv : List Value) (n i : Nat) : List Value := kv.drop (i % n) ++ kv.take (i % n / 2)
/-- Tables that a call has made, so far. -/
structure TL (wk : World) (base : Nat) (v u : Value) (kvR : List Value) (R : List (List Int)) (i : Nat) (kv : List Value) : Prop where
  len : kv.length = i
  own : wk.ownsRow base 25 2 v i (tcs u kv)
  rows : ∀ j, j < i → ∃ x, kv[j]? = some x ∧ wk.ownsRow base 37 1 x (rotP R j).length (rotV kvR R.length j)
theorem TL.step {w w' : World} {base i : Nat} {v u : Value} {kvR kv : List Value} {R : List (List Int)} (h : TL w base v u kvR R i kv) (hb : Below w.heap.size w w') : TL w' base v u kvR R i kv :=
  ⟨h.len, own_below h.own hb, fun j hj => by obtain ⟨x, e1, e2⟩ := h.rows j hj; exact ⟨x, e1, own_below e2 hb⟩⟩
theorem TL.push {w w' : World} {base i : Nat} {v v' u x : Value} {kvR kv : List Value} {R : List (List Int)} (h : TL w base v u kvR R i kv) (hx : w.ownsRow base 37 1 x (rotP R i).length (rotV kvR R.length i))
    (hown : w'.ownsRow base 25 2 v' (i + 1) (tcs u kv ++ [u, x])) (hg : w.grownBy w' v.ownBlock) : TL w' base v' u kvR R (i + 1) (kv ++ [x]) := by
  have hk : Kept (fun k => v.ownBlock = some k) w w' := ⟨hg.os, hg.tape, hg.output, hg.size, fun k hk hn => hg.block k hk (fun e => hn e.symm)⟩
  have hF : ∀ k, v.ownBlock = some k → ∃ cur T' z, w.heap[k]? = some (.cells cur T' z) ∧ T' ≠ 37 := by
    intro k e
    obtain ⟨c, hc⟩ := own_type h.own e
    exact ⟨_, _, _, hc, by decide⟩
  refine ⟨by simp [h.len], by rw [tcs_push]; exact hown, fun j hj => ?_⟩
  have hl := h.len
  by_cases e : j = i
  · subst e
    exact ⟨x, by rw [List.getElem?_append_right (by omega), hl]; simp, own_other hx hk hF⟩
  · obtain ⟨y, e1, e2⟩ := h.rows j (by omega)
    exact ⟨y, by rw [List.getElem?_append_left (by omega)]; exact e1, own_other e2 hk hF⟩
/-- .. as a slice of tables. -/
theorem TL.tables {w wb : World} {base i cap : Nat} {a z1 : Option Addr} {z2 : Nat} {kvR kv : List Value} {L : List TB} {R : List (List Int)} (h : TL w base (.slice a i cap) (.slice z1 L.length z2) kvR R i kv) (hv : VR wb kvR R) (hb : Below wb.heap.size wb w) (hB : BsR wb z1 L.length L) (hz : L.length ≤ z2) (h0 : 0 < R.length) (hR : R.length ≤ 1000) (hi : i ≤ 64) :
    TsR w a i (rotTs L R i) := by
  refine ⟨rotTs_len L R i, by omega, ?_⟩
  by_cases hi0 : i = 0
  · exact .inl hi0
  · right
    obtain ⟨g, c2, e⟩ := own_form h.own (by omega)
    have ho := h.own
    rw [e] at ho
    simp only [Value.slice.injEq] at e
    refine ⟨g, 0, e.1, own_lt ho, fun j hj => ?_⟩
    obtain ⟨x, e1, e2⟩ := h.rows j hj
    obtain ⟨t1, t2⟩ := tcs_at (.slice z1 L.length z2) kv j e1
    obtain ⟨ax, cx, rfl⟩ := own_slice e2
    rw [rotTs_at L R hj]
    have hl := tcs_len (.slice z1 L.length z2) kv
    have hlen := h.len
    have hrl := (rotP_len R j h0).2.2
    refine ⟨z1, z2, ax, cx, ?_, ?_, hz, hB.step hb, ?_⟩
    · rw [Nat.zero_add, ho.cellAt (j := j * 2) (by omega), Nat.mul_comm j 2]; exact t1
    · rw [Nat.zero_add, ho.cellAt (j := j * 2 + 1) (by omega), Nat.mul_comm j 2]; exact t2
    · exact RRk.of_own e2 (((hv.step hb).drop _).app ((hv.step hb).take _)) rfl (by show (rotP R j).length ≤ 9223372036854775807; omega)
/-- An append of so many as there are, some or none, as a step of a region that draws its order. -/
theorem step_append_any {P : Program} {w : World} {ops : Array Oper} {o : Oper} {a : Act} {K : Act → World → Prop} {Q : Exit → Act → World → Prop} {E : Prop} (hgd : o.guard = none) (s x : Operand) (t : TypeId)
    (ho : o.op = .call { callee := .builtin .append, args := #[s, x], argTypes := #[t, t] })
    (base : Nat) (e : TypeId) (i : TypeInfo) (z : Value) (size bytes : Nat) (ht : P.underlying t = some (.slice e)) (hi : P.info? e = some i) (hz : i.zero = some z)
    (hsize : i.size = size) (hby : i.bytes = bytes) (hzs : z.cells.size = size) (hsz : 0 < size)
    (v : Value) (n : Nat) (xs : List Value) (hs : a.eval s = v) (hown : w.ownsRow base e size v n xs)
    (ad : Addr) (m c : Nat) (news : List Value) (hx : a.eval x = .slice (some ad) m c) (hl : news.length = m * size) (hnews : ∀ j u, news[j]? = some u → w.cell? (ad.add j) = some u) (h1 : ∀ u ∈ news, u.oneCell' = true)
    (h63 : n + m ≤ maxLen) (hbytes : (n + m) * bytes ≤ 140737488355328) (hbase : base ≤ w.heap.size)
    (h : ∀ v' w', w'.ownsRow base e size v' (n + m) (xs ++ news) → w.grownBy w' v.ownBlock → K (a.put o.dst v') w') :
    if Region.wanted o (yielded ops a.tmps) = true then Oper.wp P o a w K Q else E := by
  have hw : Region.wanted o (yielded ops a.tmps) = true := by simp [Region.wanted, hgd]
  rw [if_pos hw]
  obtain ⟨v', w', hr, h2, h3, h4, h5⟩ := run_append_own_at (P := P) w base t o.type e i z size bytes ht hi hz hsize hby hzs hsz v n xs hown ad m c news hl hnews h1 h63 hbytes hbase
  unfold Oper.wp execOp
  simp only [ho, resolve, invoke, builtin, Sem.run_bind, Sem.run_pure, Result.andThen_ok, List.map_toArray, List.map_cons, List.map_nil, hs, hx, hr]
  exact h v' w' h2 h3
end Go.Proofs.YtnhpjacodhdpeaaDoor
