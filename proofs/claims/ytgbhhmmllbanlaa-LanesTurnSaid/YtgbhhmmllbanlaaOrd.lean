/-
  A region that draws its order, by what holds whatever is done so far; two squares turned over, and laid into two new boxes, in whatever order.
-/
import Derived.Test.YtgbhhmmllbanlaaSqV
import Derived.Orders
namespace Go.Proofs.Ytgbhhmmllbanlaa
open Go.RowKit

section
variable {P : Program} {ops : Array Oper} {Q : Exit → Act → World → Prop} {md : Region.Mode}

/-- What is not done yet. -/
def todo (ops : Array Oper) (listed : Array Bool) : List Nat := (List.range ops.size).filter (fun i => !listed.getD i true)
theorem todo_less {listed : Array Bool} {i : Nat} (hi : i < ops.size) (h : listed.getD i true = false) : (todo ops (listed.setIfInBounds i true)).length < (todo ops listed).length := by
  have e : todo ops (listed.setIfInBounds i true) = (todo ops listed).filter (fun j => j != i) := by
    unfold todo
    rw [List.filter_filter]
    apply List.filter_congr
    intro j _
    by_cases hj : i = j
    · subst hj; simp [Array.getElem?_setIfInBounds]
      split <;> simp
    · rw [getD_set_ne true hj]; simp [show j ≠ i from fun e => hj e.symm]
  rw [e]
  apply List.length_filter_lt_length_iff_exists.2
  exact ⟨i, by unfold todo; rw [List.mem_filter]; exact ⟨List.mem_range.2 hi, by rw [h]; rfl⟩, by simp⟩
theorem ready_lt {listed : Array Bool} {i : Nat} (h : i ∈ Region.ready md ops listed) : i < ops.size := by
  obtain ⟨-, o, ho, -⟩ := mem_ready.1 h
  exact (Array.getElem?_eq_some_iff.1 ho).1
/-- Every operation waits for earlier ones alone. -/
def backB (ops : Array Oper) : Bool := (List.range ops.size).all fun i => ((ops[i]?).map fun o => o.after.all fun e => e.on < i).getD false
theorem all_done (hb : backB ops = true) {listed : Array Bool} (hsz : listed.size = ops.size) (h : Region.ready md ops listed = []) : ∀ n i, i < n → i < ops.size → listed.getD i false = true := by
  intro n
  induction n with
  | zero => intro i hi; omega
  | succ n ih =>
    intro i hi hs
    cases hl : listed.getD i true with
    | true =>
      have : i < listed.size := by omega
      simpa [this] using hl
    | false =>
      exfalso
      have hr : i ∈ Region.ready md ops listed := by
        refine mem_ready.2 ⟨hl, ops[i], Array.getElem?_eq_getElem hs, fun e he _ => ?_⟩
        have h1 := List.all_eq_true.1 hb i (List.mem_range.2 hs)
        rw [Array.getElem?_eq_getElem hs] at h1
        have h2 : e.on < i := by simpa using Array.all_eq_true_iff_forall_mem.1 h1 e he
        exact ih e.on (by omega) (by omega)
      rw [h] at hr
      cases hr
/-- BY WHAT HOLDS WHATEVER IS DONE SO FAR. -/
theorem wpAny_inv {I : Array Bool → Act → World → Prop}
    (hstep : ∀ i listed a w, i ∈ Region.ready md ops listed → I listed a w → wpOp P ops Q i (I (listed.setIfInBounds i true)) a w)
    (hend : ∀ listed a w, Region.ready md ops listed = [] → I listed a w → Q .normal a w) :
    ∀ (fuel : Nat) (listed : Array Bool) (a : Act) (w : World), (todo ops listed).length ≤ fuel → I listed a w → wpAny P md ops Q fuel listed a w := by
  intro fuel
  induction fuel with
  | zero =>
    intro listed a w h hI
    have hn : Region.ready md ops listed = [] := by
      apply List.eq_nil_iff_forall_not_mem.2
      intro i hi
      have h0 : todo ops listed = [] := List.eq_nil_of_length_eq_zero (by omega)
      have : i ∈ todo ops listed := by
        unfold todo
        exact List.mem_filter.2 ⟨List.mem_range.2 (ready_lt hi), by rw [(mem_ready.1 hi).1]; rfl⟩
      rw [h0] at this
      cases this
    exact ⟨hn, hend _ _ _ hn hI⟩
  | succ fuel ih =>
    intro listed a w h hI
    refine ⟨fun hn => hend _ _ _ hn hI, fun i hi => wpOp_mono (fun a' w' hI' => ih _ a' w' ?_ hI') (hstep i listed a w hi hI)⟩
    have := todo_less (ready_lt hi) (mem_ready.1 hi).1
    omega
theorem wp_region_inv {I : Array Bool → Act → World → Prop} {id : Nat} {a : Act} {w : World} (hm : P.follows .mixedOrders = true)
    (h0 : I (Array.replicate ops.size false) a w.drew)
    (hstep : ∀ i listed a w, i ∈ Region.ready .any ops listed → I listed a w → wpOp P ops Q i (I (listed.setIfInBounds i true)) a w)
    (hend : ∀ listed a w, Region.ready .any ops listed = [] → I listed a w → Q .normal a w) : (Code.region id ops true).wp P Q a w :=
  wp_region_any hm (wpAny_inv hstep hend _ _ _ _ (by unfold todo; exact Nat.le_trans (List.length_filter_le _ _) (by simp)) h0)
theorem wpOp_of {i : Nat} {o : Oper} {a : Act} {w : World} {K : Act → World → Prop} (hi : ops[i]? = some o) (hg : o.guard = none) (h : o.wp P a w K Q) : wpOp P ops Q i K a w := by
  unfold wpOp
  simp only [hi, Region.wanted, hg, if_true]
  exact .inl h
end

/-- What is laid into a call's own places. -/
structure Slots (T : Nat → Tmp) (V : Nat → Value) (n : Nat) (a0 : Act) (c : Nat → Bool) (a : Act) : Prop where
  defers : a.defers = a0.defers
  size : a.tmps.size = a0.tmps.size
  rest : ∀ t, (∀ k, k < n → t ≠ T k) → a.tmps[t]? = a0.tmps[t]?
  vals : ∀ k, k < n → c k = true → a.tmps[T k]? = some (V k)
theorem Slots.start {T : Nat → Tmp} {V : Nat → Value} {n : Nat} (a0 : Act) : Slots T V n a0 (fun _ => false) a0 := ⟨rfl, rfl, fun _ _ => rfl, fun _ _ h => by cases h⟩
theorem Slots.put {T : Nat → Tmp} {V V' : Nat → Value} {n : Nat} {a0 a : Act} {c : Nat → Bool} (h : Slots T V n a0 c a) {k : Nat} (hk : k < n) (hT : ∀ i, i < n → ∀ j, j < n → T i = T j → i = j) (hs : T k < a0.tmps.size)
    (hV : ∀ j, j < n → j ≠ k → V' j = V j) (v : Value) (hv : V' k = v) : Slots T V' n a0 (fun j => if j = k then true else c j) (a.put (some (T k)) v) := by
  refine ⟨h.defers, ?_, ?_, ?_⟩
  · show (a.tmps.setIfInBounds (T k) v).size = _
    rw [Array.size_setIfInBounds]; exact h.size
  · intro t ht
    show (a.tmps.setIfInBounds (T k) v)[t]? = _
    rw [Array.getElem?_setIfInBounds_ne (fun e => ht k hk e.symm)]
    exact h.rest t ht
  · intro j hj hc
    show (a.tmps.setIfInBounds (T k) v)[T j]? = _
    by_cases e : j = k
    · subst e
      rw [Array.getElem?_setIfInBounds_self_of_lt (by rw [h.size]; exact hs), hv]
    · rw [Array.getElem?_setIfInBounds_ne (fun x => e (hT _ hj _ hk x.symm)), hV j hj e]
      exact h.vals j hj (by simpa [e] using hc)
theorem Slots.congr {T : Nat → Tmp} {V V' : Nat → Value} {n : Nat} {a0 a : Act} {c c' : Nat → Bool} (h : Slots T V n a0 c a) (hc : ∀ k, k < n → c' k = true → c k = true ∧ V' k = V k) : Slots T V' n a0 c' a :=
  ⟨h.defers, h.size, h.rest, fun k hk hck => by rw [(hc k hk hck).2]; exact h.vals k hk (hc k hk hck).1⟩
theorem Slots.one {T : Nat → Tmp} {V : Nat → Value} {n : Nat} {a0 a b : Act} {c d : Nat → Bool} (h : Slots T V n a0 c a) (g : Slots T V n a0 d b) (hc : ∀ k, k < n → c k = true) (hd : ∀ k, k < n → d k = true) : a = b := by
  have e : a.tmps = b.tmps := by
    apply Array.ext_getElem?
    intro t
    by_cases ht : ∃ k, k < n ∧ t = T k
    · obtain ⟨k, hk, rfl⟩ := ht
      rw [h.vals k hk (hc k hk), g.vals k hk (hd k hk)]
    · have ht' : ∀ k, k < n → t ≠ T k := fun k hk e => ht ⟨k, hk, e⟩
      rw [h.rest t ht', g.rest t ht']
  have e2 : a.defers = b.defers := h.defers.trans g.defers.symm
  cases a; cases b
  cases e; cases e2
  rfl
theorem Slots.eval {T : Nat → Tmp} {V : Nat → Value} {n : Nat} {a0 a : Act} {c : Nat → Bool} (h : Slots T V n a0 c a) {k : Nat} (hk : k < n) (hc : c k = true) : a.eval (.tmp (T k)) = V k := by
  have := h.vals k hk hc
  simp [Act.eval, this]
theorem Slots.eval_rest {T : Nat → Tmp} {V : Nat → Value} {n : Nat} {a0 a : Act} {c : Nat → Bool} (h : Slots T V n a0 c a) {t : Tmp} (ht : ∀ k, k < n → t ≠ T k) : a.eval (.tmp t) = a0.eval (.tmp t) := by
  have := h.rest t ht
  simp [Act.eval, this]
end Go.Proofs.Ytgbhhmmllbanlaa
