/-
  Words as numbers: what 'two' comes to; order; sums.
-/
import Derived.Test.YtmieddcgnaddiaaWordL
namespace Go.Proofs.Ytmieddcgnaddiaa
open Go.RowKit

theorem pow_pos' (k : Nat) : (0 : Int) < 2 ^ k := Int.pow_pos (by decide)

theorem two_cmp {op : Int} {B S : Bool} {W a b : Int} (h1 : mayTwo op B = true) (ha : isw B S W a = true) (hb : isw B S W b = true) (h7 : 7 ≤ op) : two op B S W a b = bit (cmpB op S W a b) := by
  have hk : twoOk op B S W a b = true := by simp [twoOk, h1, ha, hb]
  unfold two; rw [if_pos hk]; unfold twoV; rw [if_pos hk, if_pos h7]
theorem two_cut {op : Int} {B S : Bool} {W a b : Int} (h1 : mayTwo op B = true) (ha : isw B S W a = true) (hb : isw B S W b = true) (h7 : ¬ 7 ≤ op) : two op B S W a b = cut B S W (comb op a b) := by
  have hk : twoOk op B S W a b = true := by simp [twoOk, h1, ha, hb]
  unfold two; rw [if_pos hk]; unfold twoV; rw [if_pos hk, if_neg h7]
theorem two_isw {op : Int} {B S : Bool} {W a b : Int} (h1 : mayTwo op B = true) (ha : isw B S W a = true) (hb : isw B S W b = true) (h7 : ¬ 7 ≤ op) : isw B S W (two op B S W a b) = true := by
  rw [two_cut h1 ha hb h7]; exact cut_isw (isw_may ha)

theorem sval_inj {B S : Bool} {W a b : Int} (ha : isw B S W a = true) (hb : isw B S W b = true) (h : sval S W a = sval S W b) : a = b := by
  obtain ⟨-, -, a0, a1⟩ := isw_bd ha
  obtain ⟨-, -, b0, b1⟩ := isw_bd hb
  unfold sval at h
  split at h <;> split at h <;> omega

/-- 2^W divides 2^64: what is cut may be wrapped first. -/
theorem wrap_mod {W : Int} (h : 1 ≤ W ∧ W ≤ 64) (x : Int) : IntKind.u64.wrap x % 2 ^ W.toNat = x % 2 ^ W.toNat := by
  rw [u64w, pow_split W.toNat (by omega)]
  exact Int.emod_emod_of_dvd x (Int.dvd_mul_right _ _)

theorem add_eq {S : Bool} {W a b : Int} (ha : isw false S W a = true) (hb : isw false S W b = true) : two 4 false S W a b = (a + b) % 2 ^ W.toNat := by
  rw [two_cut rfl ha hb (by omega)]
  have hm := isw_may ha
  unfold cut; rw [if_pos hm]
  exact wrap_mod (may_bounds hm) _

theorem add_inj {S : Bool} {W a b c : Int} (ha : isw false S W a = true) (hb : isw false S W b = true) (hc : isw false S W c = true) (h : two 4 false S W a c = two 4 false S W b c) : a = b := by
  rw [add_eq ha hc, add_eq hb hc] at h
  obtain ⟨-, -, a0, a1⟩ := isw_bd ha
  obtain ⟨-, -, b0, b1⟩ := isw_bd hb
  have h2 : ((a + c) - c) % 2 ^ W.toNat = ((b + c) - c) % 2 ^ W.toNat := by rw [Int.sub_emod, h, ← Int.sub_emod]
  rw [Int.add_sub_cancel, Int.add_sub_cancel, Int.emod_eq_of_lt a0 a1, Int.emod_eq_of_lt b0 b1] at h2
  exact h2

structure OrderF (S : Bool) (W a b c : Int) (eq ne lt gt le ge : Int) : Prop where
  e1 : two 7 false S W a b = eq
  e2 : two 8 false S W a b = ne
  e3 : two 7 false S W b a = eq
  e4 : two 9 false S W a b = lt
  e5 : two 11 false S W a b = gt
  e6 : two 10 false S W a b = le
  e7 : two 12 false S W a b = ge
  e8 : two 11 false S W b a = lt
  e9 : two 7 false S W (two 4 false S W a c) (two 4 false S W b c) = eq

theorem order_of {S : Bool} {W a b c : Int} (ha : isw false S W a = true) (hb : isw false S W b = true) (hc : isw false S W c = true) :
    OrderF S W a b c (bit (a == b)) (bit (a != b)) (bit (lessB S W a b)) (bit (lessB S W b a)) (bit (!lessB S W b a)) (bit (!lessB S W a b)) where
  e1 := by rw [two_cmp rfl ha hb (by omega)]; rfl
  e2 := by rw [two_cmp rfl ha hb (by omega)]; rfl
  e3 := by rw [two_cmp rfl hb ha (by omega), BEq.comm]; rfl
  e4 := by rw [two_cmp rfl ha hb (by omega)]; rfl
  e5 := by rw [two_cmp rfl ha hb (by omega)]; rfl
  e6 := by rw [two_cmp rfl ha hb (by omega)]; rfl
  e7 := by rw [two_cmp rfl ha hb (by omega)]; rfl
  e8 := by rw [two_cmp rfl hb ha (by omega)]; rfl
  e9 := by
    rw [two_cmp rfl (two_isw rfl ha hc (by omega)) (two_isw rfl hb hc (by omega)) (by omega)]
    show bit (two 4 false S W a c == two 4 false S W b c) = bit (a == b)
    by_cases h : a = b
    · subst h; rw [beq_self_eq_true, beq_self_eq_true]
    · have : ¬ two 4 false S W a c = two 4 false S W b c := fun e => h (add_inj ha hb hc e)
      rw [beq_eq_false_iff_ne.2 this, beq_eq_false_iff_ne.2 h]

/-- Of two words one of three holds. -/
theorem order_three {S : Bool} {W a b : Int} (ha : isw false S W a = true) (hb : isw false S W b = true) :
    (a = b ∧ lessB S W a b = false ∧ lessB S W b a = false) ∨ ((a == b) = false ∧ lessB S W a b = true ∧ lessB S W b a = false) ∨ ((a == b) = false ∧ lessB S W a b = false ∧ lessB S W b a = true) := by
  unfold lessB
  rcases Int.lt_trichotomy (sval S W a) (sval S W b) with h | h | h
  · refine .inr (.inl ⟨?_, by simpa using h, by simp; omega⟩)
    exact beq_eq_false_iff_ne.2 (fun e => by subst e; omega)
  · exact .inl ⟨sval_inj ha hb h, by simp; omega, by simp; omega⟩
  · refine .inr (.inr ⟨?_, by simp; omega, by simpa using h⟩)
    exact beq_eq_false_iff_ne.2 (fun e => by subst e; omega)

theorem val_less {S : Bool} {W a b : Int} (h1 : valOk false S W a = true) (h2 : valOk false S W b = true) : decide (valV false S W a < valV false S W b) = lessB S W a b := by
  unfold valV lessB; rw [if_pos h1, if_pos h2]

theorem less_trans {S : Bool} {W a b c : Int} (h1 : lessB S W a b = true) (h2 : lessB S W b c = true) : lessB S W a c = true := by
  unfold lessB at *; simp at *; omega

theorem made_ex (B S : Bool) (W : Int) : ∃ (S' : Bool) (W' : Int), may B S' W' = true ∧ ∀ w : World, Calls Try.prog 13 #[.agg #[.bool B, .bool S, .int .i64 W]] w fun e w' => e = .returned (.agg #[.bool B, .bool S', .int .i64 W']) ∧ Below w.heap.size w w' :=
  ⟨mS B S, mW B W, may_made B S W, fun w => made_any B S W w⟩
theorem cut_ex (B S : Bool) (W n : Int) (hm : may B S W = true) : ∃ a, isw B S W a = true ∧ ∀ w : World, Calls Try.prog 14 #[.agg #[.bool B, .bool S, .int .i64 W], .int .u64 n] w fun e w' => e = .returned (.int .u64 a) ∧ Below w.heap.size w w' :=
  ⟨cut B S W n, cut_isw hm, fun w => cut_any B S W n w⟩
end Go.Proofs.Ytmieddcgnaddiaa
