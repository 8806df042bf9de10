/-
  Words are a ring; and, or, xor, not.
-/
import Derived.Test.YtmieddcgnaddiaaWordN
namespace Go.Proofs.Ytmieddcgnaddiaa
open Go.RowKit

theorem u64_nat {n : Nat} (h : n < 18446744073709551616) : IntKind.u64.wrap (n : Int) = n := by rw [u64w]; omega
theorem toNat_lt {a : Int} (h : a < 18446744073709551616) : a.toNat < 2 ^ 64 := by omega

theorem ofInt_nat {a : Int} (ha : 0 ≤ a) (ha' : a < 18446744073709551616) : (BitVec.ofInt 64 a).toNat = a.toNat := by
  rw [BitVec.toNat_ofInt]; omega

theorem bits_and {a b : Int} (ha : 0 ≤ a) (ha' : a < 18446744073709551616) (hb : 0 ≤ b) (hb' : b < 18446744073709551616) : bits .and .u64 a b = ((a.toNat &&& b.toNat : Nat) : Int) := by
  show IntKind.u64.wrap ((BitVec.ofInt 64 a &&& BitVec.ofInt 64 b).toNat : Int) = _
  rw [BitVec.toNat_and, ofInt_nat ha ha', ofInt_nat hb hb']
  exact u64_nat (Nat.and_lt_two_pow _ (toNat_lt hb'))
theorem bits_or {a b : Int} (ha : 0 ≤ a) (ha' : a < 18446744073709551616) (hb : 0 ≤ b) (hb' : b < 18446744073709551616) : bits .or .u64 a b = ((a.toNat ||| b.toNat : Nat) : Int) := by
  show IntKind.u64.wrap ((BitVec.ofInt 64 a ||| BitVec.ofInt 64 b).toNat : Int) = _
  rw [BitVec.toNat_or, ofInt_nat ha ha', ofInt_nat hb hb']
  exact u64_nat (Nat.or_lt_two_pow (toNat_lt ha') (toNat_lt hb'))
theorem bits_xor {a b : Int} (ha : 0 ≤ a) (ha' : a < 18446744073709551616) (hb : 0 ≤ b) (hb' : b < 18446744073709551616) : bits .xor .u64 a b = ((a.toNat ^^^ b.toNat : Nat) : Int) := by
  show IntKind.u64.wrap ((BitVec.ofInt 64 a ^^^ BitVec.ofInt 64 b).toNat : Int) = _
  rw [BitVec.toNat_xor, ofInt_nat ha ha', ofInt_nat hb hb']
  exact u64_nat (Nat.xor_lt_two_pow (toNat_lt ha') (toNat_lt hb'))
theorem bits_not {a : Int} (ha : 0 ≤ a) (ha' : a < 18446744073709551616) : bits .xor .u64 IntKind.u64.max a = 18446744073709551615 - a := by
  show IntKind.u64.wrap ((BitVec.ofInt 64 IntKind.u64.max ^^^ BitVec.ofInt 64 a).toNat : Int) = _
  rw [show BitVec.ofInt 64 IntKind.u64.max = BitVec.allOnes 64 by decide +kernel, BitVec.allOnes_xor, BitVec.toNat_not, ofInt_nat ha ha', u64w]
  omega

/-- A word is below 2^64. -/
theorem isw_lt {B S : Bool} {W n : Int} (h : isw B S W n = true) : 0 ≤ n ∧ n < 18446744073709551616 := by
  have := isw_le h; omega
theorem isw_nat {B S : Bool} {W n : Int} (h : isw B S W n = true) : n.toNat < 2 ^ W.toNat := by
  obtain ⟨h1, h2, h3, h4⟩ := isw_bd h
  have : ((n.toNat : Nat) : Int) < ((2 ^ W.toNat : Nat) : Int) := by rw [Int.toNat_of_nonneg h3]; exact_mod_cast h4
  exact_mod_cast this
theorem isw_of_nat {B S : Bool} {W : Int} {n : Nat} (hm : may B S W = true) (h : n < 2 ^ W.toNat) : isw B S W (n : Int) = true :=
  isw_mk hm (by omega) (by exact_mod_cast h)
theorem cut_of_nat {B S : Bool} {W : Int} {n : Nat} (hm : may B S W = true) (h : n < 2 ^ W.toNat) : cut B S W (n : Int) = n := by
  have := isw_of_nat (B := B) (S := S) hm h
  unfold isw at this; simp at this; exact this.2

theorem and_eq {S : Bool} {W a b : Int} (ha : isw false S W a = true) (hb : isw false S W b = true) : two 1 false S W a b = ((a.toNat &&& b.toNat : Nat) : Int) := by
  rw [two_cut rfl ha hb (by omega)]
  show cut false S W (bits .and .u64 a b) = _
  rw [bits_and (isw_lt ha).1 (isw_lt ha).2 (isw_lt hb).1 (isw_lt hb).2]
  exact cut_of_nat (isw_may ha) (Nat.and_lt_two_pow _ (isw_nat hb))
theorem or_eq {S : Bool} {W a b : Int} (ha : isw false S W a = true) (hb : isw false S W b = true) : two 2 false S W a b = ((a.toNat ||| b.toNat : Nat) : Int) := by
  rw [two_cut rfl ha hb (by omega)]
  show cut false S W (bits .or .u64 a b) = _
  rw [bits_or (isw_lt ha).1 (isw_lt ha).2 (isw_lt hb).1 (isw_lt hb).2]
  exact cut_of_nat (isw_may ha) (Nat.or_lt_two_pow (isw_nat ha) (isw_nat hb))
theorem xor_eq {S : Bool} {W a b : Int} (ha : isw false S W a = true) (hb : isw false S W b = true) : two 3 false S W a b = ((a.toNat ^^^ b.toNat : Nat) : Int) := by
  rw [two_cut rfl ha hb (by omega)]
  show cut false S W (bits .xor .u64 a b) = _
  rw [bits_xor (isw_lt ha).1 (isw_lt ha).2 (isw_lt hb).1 (isw_lt hb).2]
  exact cut_of_nat (isw_may ha) (Nat.xor_lt_two_pow (isw_nat ha) (isw_nat hb))
theorem sub_eq {S : Bool} {W a b : Int} (ha : isw false S W a = true) (hb : isw false S W b = true) : two 5 false S W a b = (a - b) % 2 ^ W.toNat := by
  rw [two_cut rfl ha hb (by omega)]
  have hm := isw_may ha
  unfold cut; rw [if_pos hm]
  exact wrap_mod (may_bounds hm) _
theorem mul_eq {S : Bool} {W a b : Int} (ha : isw false S W a = true) (hb : isw false S W b = true) : two 6 false S W a b = (a * b) % 2 ^ W.toNat := by
  rw [two_cut rfl ha hb (by omega)]
  have hm := isw_may ha
  unfold cut; rw [if_pos hm]
  exact wrap_mod (may_bounds hm) _
theorem not_eq {S : Bool} {W a : Int} (ha : isw false S W a = true) : oneV 1 false S W a = ((2 ^ W.toNat - 1 - a.toNat : Nat) : Int) ∧ oneE 1 false S W a = 0 := by
  have hk : oneOk 1 false S W a = true := by simp [oneOk, ha]
  have hm := isw_may ha
  have hbd := may_bounds hm
  refine ⟨?_, by unfold oneE; rw [if_pos hk]⟩
  unfold oneV; rw [if_pos hk]
  show cut false S W (bits .xor .u64 IntKind.u64.max a) = _
  rw [bits_not (isw_lt ha).1 (isw_lt ha).2]
  have hn := isw_nat ha
  have h3 := (isw_lt ha).1
  unfold cut; rw [if_pos hm]
  have e : (18446744073709551615 - a : Int) = ((2 ^ W.toNat - 1 - a.toNat : Nat) : Int) + (2 ^ W.toNat) * (2 ^ (64 - W.toNat) - 1) := by
    have es := pow_split W.toNat (by omega)
    have e1 : ((2 ^ W.toNat - 1 - a.toNat : Nat) : Int) = 2 ^ W.toNat - 1 - a := by
      have : ((2 ^ W.toNat : Nat) : Int) = 2 ^ W.toNat := by exact_mod_cast rfl
      omega
    rw [e1, Int.mul_sub, ← es]; omega
  rw [e, Int.add_mul_emod_self_left]
  exact Int.emod_eq_of_lt (by omega) (by
    have h5 : 2 ^ W.toNat - 1 - a.toNat < 2 ^ W.toNat := by have := Nat.two_pow_pos W.toNat; omega
    exact_mod_cast h5)
theorem neg_eq {S : Bool} {W a : Int} (ha : isw false S W a = true) : oneV 2 false S W a = (-a) % 2 ^ W.toNat ∧ oneE 2 false S W a = 0 := by
  have hk : oneOk 2 false S W a = true := by simp [oneOk, ha]
  have hm := isw_may ha
  refine ⟨?_, by unfold oneE; rw [if_pos hk]⟩
  unfold oneV; rw [if_pos hk]
  show cut false S W (IntKind.u64.wrap (-a)) = _
  unfold cut; rw [if_pos hm]
  exact wrap_mod (may_bounds hm) _

theorem eml (x y m : Int) : (x % m * y) % m = (x * y) % m := by rw [Int.mul_emod, Int.emod_emod, ← Int.mul_emod]
theorem emr (x y m : Int) : (x * (y % m)) % m = (x * y) % m := by rw [Int.mul_emod, Int.emod_emod, ← Int.mul_emod]

theorem de_morgan {k x y : Nat} (hx : x < 2 ^ k) (hy : y < 2 ^ k) : (2 ^ k - 1 - x) ||| (2 ^ k - 1 - y) = 2 ^ k - 1 - (x &&& y) := by
  have hxy : x &&& y < 2 ^ k := Nat.and_lt_two_pow _ hy
  rw [show 2 ^ k - 1 - x = 2 ^ k - (x + 1) by omega, show 2 ^ k - 1 - y = 2 ^ k - (y + 1) by omega, show 2 ^ k - 1 - (x &&& y) = 2 ^ k - ((x &&& y) + 1) by omega]
  apply Nat.eq_of_testBit_eq
  intro i
  rw [Nat.testBit_or, Nat.testBit_two_pow_sub_succ hx, Nat.testBit_two_pow_sub_succ hy, Nat.testBit_two_pow_sub_succ hxy, Nat.testBit_and]
  cases decide (i < k) <;> cases x.testBit i <;> cases y.testBit i <;> rfl

/-- The ops that do not hang on order. -/
def ringOp (op : Int) : Bool := op == 1 || op == 2 || op == 3 || op == 4 || op == 6

theorem ring_cases {op : Int} (h : ringOp op = true) : op = 1 ∨ op = 2 ∨ op = 3 ∨ op = 4 ∨ op = 6 := by
  unfold ringOp at h; simp at h; omega

theorem ring_isw {op : Int} {S : Bool} {W a b : Int} (h : ringOp op = true) (ha : isw false S W a = true) (hb : isw false S W b = true) : isw false S W (two op false S W a b) = true := by
  rcases ring_cases h with rfl | rfl | rfl | rfl | rfl <;> exact two_isw rfl ha hb (by omega)

theorem ring_comm {op : Int} {S : Bool} {W a b : Int} (h : ringOp op = true) (ha : isw false S W a = true) (hb : isw false S W b = true) : two op false S W b a = two op false S W a b := by
  rcases ring_cases h with rfl | rfl | rfl | rfl | rfl
  · rw [and_eq ha hb, and_eq hb ha, Nat.and_comm]
  · rw [or_eq ha hb, or_eq hb ha, Nat.or_comm]
  · rw [xor_eq ha hb, xor_eq hb ha, Nat.xor_comm]
  · rw [add_eq ha hb, add_eq hb ha, Int.add_comm]
  · rw [mul_eq ha hb, mul_eq hb ha, Int.mul_comm]

theorem ring_assoc {op : Int} {S : Bool} {W a b c : Int} (h : ringOp op = true) (ha : isw false S W a = true) (hb : isw false S W b = true) (hc : isw false S W c = true) :
    two op false S W (two op false S W a b) c = two op false S W a (two op false S W b c) := by
  have h1 := ring_isw h ha hb
  have h2 := ring_isw h hb hc
  rcases ring_cases h with rfl | rfl | rfl | rfl | rfl
  · rw [and_eq h1 hc, and_eq ha h2, and_eq ha hb, and_eq hb hc, Int.toNat_natCast, Int.toNat_natCast, Nat.and_assoc]
  · rw [or_eq h1 hc, or_eq ha h2, or_eq ha hb, or_eq hb hc, Int.toNat_natCast, Int.toNat_natCast, Nat.or_assoc]
  · rw [xor_eq h1 hc, xor_eq ha h2, xor_eq ha hb, xor_eq hb hc, Int.toNat_natCast, Int.toNat_natCast, Nat.xor_assoc]
  · rw [add_eq h1 hc, add_eq ha h2, add_eq ha hb, add_eq hb hc, Int.emod_add_emod, Int.add_emod_emod, Int.add_assoc]
  · rw [mul_eq h1 hc, mul_eq ha h2, mul_eq ha hb, mul_eq hb hc, eml, emr, Int.mul_assoc]

theorem neut_isw {op : Int} {S : Bool} {W : Int} (h : ringOp op = true) (hm : may false S W = true) : isw false S W (neutV op false S W) = true := by
  have hbd := may_bounds hm
  have hp := pow_pos' W.toNat
  have hp2 := two_pow_pred W.toNat (by omega)
  have hp3 := pow_pos' (W.toNat - 1)
  rcases ring_cases h with rfl | rfl | rfl | rfl | rfl
  · exact cut_isw hm
  · exact isw_mk hm (by show (0 : Int) ≤ 0; decide) (by show (0 : Int) < _; omega)
  · exact isw_mk hm (by show (0 : Int) ≤ 0; decide) (by show (0 : Int) < _; omega)
  · exact isw_mk hm (by show (0 : Int) ≤ 0; decide) (by show (0 : Int) < _; omega)
  · exact isw_mk hm (by show (0 : Int) ≤ 1; decide) (by show (1 : Int) < _; omega)

theorem neut_id {op : Int} {S : Bool} {W a : Int} (h : ringOp op = true) (ha : isw false S W a = true) : two op false S W (neutV op false S W) a = a := by
  have hm := isw_may ha
  have hbd := may_bounds hm
  have hn := neut_isw h hm
  obtain ⟨-, -, a0, a1⟩ := isw_bd ha
  rcases ring_cases h with rfl | rfl | rfl | rfl | rfl
  · rw [and_eq hn ha]
    have e : (neutV 1 false S W).toNat = 2 ^ W.toNat - 1 := by
      show (cut false S W 18446744073709551615).toNat = _
      unfold cut; rw [if_pos hm]
      have es := pow_split W.toNat (by omega)
      have hp := pow_pos' W.toNat
      have e2 : (18446744073709551615 : Int) = (2 ^ W.toNat - 1) + 2 ^ W.toNat * (2 ^ (64 - W.toNat) - 1) := by rw [Int.mul_sub, ← es]; omega
      rw [e2, Int.add_mul_emod_self_left, Int.emod_eq_of_lt (by omega) (by omega)]
      have : ((2 ^ W.toNat : Nat) : Int) = 2 ^ W.toNat := by exact_mod_cast rfl
      omega
    rw [e, Nat.and_comm, Nat.and_two_pow_sub_one_eq_mod, Nat.mod_eq_of_lt (isw_nat ha)]; omega
  · rw [or_eq hn ha]; show ((0 ||| a.toNat : Nat) : Int) = a; rw [Nat.zero_or]; omega
  · rw [xor_eq hn ha]; show ((0 ^^^ a.toNat : Nat) : Int) = a; rw [Nat.zero_xor]; omega
  · rw [add_eq hn ha]; show (0 + a) % _ = a; rw [Int.zero_add]; exact Int.emod_eq_of_lt a0 a1
  · rw [mul_eq hn ha]; show (1 * a) % _ = a; rw [Int.one_mul]; exact Int.emod_eq_of_lt a0 a1

theorem ring_ok {op : Int} {S : Bool} {W a b : Int} (h : ringOp op = true) (ha : isw false S W a = true) (hb : isw false S W b = true) : twoV op false S W a b = two op false S W a b ∧ twoE op false S W a b = 0 := by
  have hk : twoOk op false S W a b = true := by
    rcases ring_cases h with rfl | rfl | rfl | rfl | rfl <;> simp [twoOk, ha, hb, mayTwo]
  exact ⟨by unfold two; rw [if_pos hk], by unfold twoE; rw [if_pos hk]⟩

theorem ring_step {op : Int} {S : Bool} {W a b : Int} (h : ringOp op = true) (ha : isw false S W a = true) (hb : isw false S W b = true) : allStep op false S W (a, 0) b = (two op false S W a b, 0) := by
  unfold allStep
  rw [show (((a, 0) : Int × Int).2 == 0) = true from rfl, if_pos rfl, (ring_ok h ha hb).1, (ring_ok h ha hb).2]

theorem ring_all {op : Int} {S : Bool} {W a b c : Int} (h : ringOp op = true) (ha : isw false S W a = true) (hb : isw false S W b = true) (hc : isw false S W c = true) :
    allR op false S W [a, b, c] = (two op false S W (two op false S W a b) c, 0) := by
  have hm := isw_may ha
  have hn := neut_isw h hm
  unfold allR
  rw [(ring_ok h hn hn).1, (ring_ok h hn hn).2, neut_id h hn]
  simp only [List.foldl_cons, List.foldl_nil]
  rw [ring_step h hn ha, neut_id h ha, ring_step h ha hb, ring_step h (ring_isw h ha hb) hc]

/-- What a round of the loop meets. -/
theorem ring_round {op : Int} {S : Bool} {W a b c : Int} (h : ringOp op = true) (ha : isw false S W a = true) (hb : isw false S W b = true) (hc : isw false S W c = true) :
    ∃ x y r, isw false S W x = true ∧ two op false S W a b = x ∧ two op false S W b a = x ∧ two op false S W b c = y ∧ two op false S W x c = r ∧ two op false S W a y = r ∧ (allR op false S W [a, b, c]).1 = r ∧ (allR op false S W [a, b, c]).2 = 0 :=
  ⟨_, _, _, ring_isw h ha hb, rfl, ring_comm h ha hb, rfl, rfl, (ring_assoc h ha hb hc).symm, by rw [ring_all h ha hb hc], by rw [ring_all h ha hb hc]⟩

structure RingF (S : Bool) (W a b c neg nt ot ab both one d s p m1 m2 : Int) : Prop where
  e1 : oneV 2 false S W a = neg
  e2 : oneE 2 false S W a = 0
  e3 : oneV 1 false S W a = nt
  e4 : oneE 1 false S W a = 0
  e5 : oneV 1 false S W b = ot
  e6 : oneE 1 false S W b = 0
  e7 : two 1 false S W a b = ab
  e8 : oneV 1 false S W ab = both
  e9 : oneE 1 false S W ab = 0
  e10 : cut false S W 1 = one
  e11 : two 5 false S W a b = d
  e12 : two 4 false S W d b = a
  e13 : two 5 false S W 0 a = neg
  e14 : two 4 false S W a neg = 0
  e15 : two 4 false S W b c = s
  e16 : two 6 false S W a s = p
  e17 : two 6 false S W a b = m1
  e18 : two 6 false S W a c = m2
  e19 : two 4 false S W m1 m2 = p
  e20 : two 6 false S W a one = a
  e21 : two 2 false S W nt ot = both
  e22 : two 4 false S W nt one = neg

theorem ring_end {S : Bool} {W a b c : Int} (ha : isw false S W a = true) (hb : isw false S W b = true) (hc : isw false S W c = true) :
    ∃ neg nt ot ab both one d s p m1 m2, RingF S W a b c neg nt ot ab both one d s p m1 m2 := by
  have hm := isw_may ha
  have hbd := may_bounds hm
  have hp := pow_pos' W.toNat
  obtain ⟨-, -, a0, a1⟩ := isw_bd ha
  have hab := two_isw (op := 1) rfl ha hb (by omega)
  have hd := two_isw (op := 5) rfl ha hb (by omega)
  have hs := two_isw (op := 4) rfl hb hc (by omega)
  have hm1 := two_isw (op := 6) rfl ha hb (by omega)
  have hm2 := two_isw (op := 6) rfl ha hc (by omega)
  have h0 : isw false S W 0 = true := isw_mk hm (by decide) hp
  have hone : isw false S W (cut false S W 1) = true := cut_isw hm
  have e1 : cut false S W 1 = 1 := by
    have hp2 := two_pow_pred W.toNat (by omega)
    have hp3 := pow_pos' (W.toNat - 1)
    unfold cut; rw [if_pos hm]; exact Int.emod_eq_of_lt (by decide) (by omega)
  have hneg : isw false S W (oneV 2 false S W a) = true := by
    rw [(neg_eq ha).1]; exact isw_mk hm (Int.emod_nonneg _ (Int.ne_of_gt hp)) (Int.emod_lt_of_pos _ hp)
  have hnot : ∀ x, isw false S W x = true → isw false S W (oneV 1 false S W x) = true := fun x hx => by
    rw [(not_eq hx).1]; exact isw_of_nat hm (by have := Nat.two_pow_pos W.toNat; omega)
  have epow : ((2 ^ W.toNat : Nat) : Int) = 2 ^ W.toNat := by exact_mod_cast rfl
  refine ⟨_, _, _, _, _, _, _, _, _, _, _, ⟨rfl, (neg_eq ha).2, rfl, (not_eq ha).2, rfl, (not_eq hb).2, rfl, rfl, (not_eq hab).2, rfl, rfl, ?_, ?_, ?_, rfl, rfl, rfl, rfl, ?_, ?_, ?_, ?_⟩⟩
  · rw [add_eq hd hb, sub_eq ha hb, Int.emod_add_emod, Int.sub_add_cancel]; exact Int.emod_eq_of_lt a0 a1
  · rw [sub_eq h0 ha, (neg_eq ha).1, Int.zero_sub]
  · rw [add_eq ha hneg, (neg_eq ha).1, Int.add_emod_emod, Int.add_right_neg]; exact Int.zero_emod _
  · rw [add_eq hm1 hm2, mul_eq ha hs, mul_eq ha hb, mul_eq ha hc, add_eq hb hc, Int.emod_add_emod, Int.add_emod_emod, emr, Int.mul_add]
  · rw [mul_eq ha hone, e1, Int.mul_one]; exact Int.emod_eq_of_lt a0 a1
  · rw [or_eq (hnot _ ha) (hnot _ hb), (not_eq ha).1, (not_eq hb).1, (not_eq hab).1, and_eq ha hb, Int.toNat_natCast, Int.toNat_natCast, Int.toNat_natCast, de_morgan (isw_nat ha) (isw_nat hb)]
  · rw [add_eq (hnot _ ha) hone, (neg_eq ha).1, (not_eq ha).1, e1]
    have hn := isw_nat ha
    have e : ((2 ^ W.toNat - 1 - a.toNat : Nat) : Int) + 1 = -a + 2 ^ W.toNat := by omega
    rw [e, Int.add_emod_right]

end Go.Proofs.Ytmieddcgnaddiaa
