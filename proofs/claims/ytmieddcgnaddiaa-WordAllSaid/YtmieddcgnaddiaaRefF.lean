/-
  The document's own answers to 'Two' and 'All' are the code's.
-/
import Derived.Test.YtmieddcgnaddiaaRefE
import Derived.Test.YtmieddcgnaddiaaWordC
namespace Go.Proofs.Ytmieddcgnaddiaa
open Go.RowKit Bits

/-- The ops of 'All' that a type has. -/
def okOp (op : Int) (B : Bool) : Bool := ringOp op && (!B || decide (op ≤ 3))

theorem ok_may {op : Int} {B : Bool} (h : okOp op B = true) : mayTwo op B = true := by
  unfold okOp at h; simp at h
  rcases ring_cases h.1 with rfl | rfl | rfl | rfl | rfl <;> cases B <;> first | rfl | (simp at h)
theorem ok_ring {op : Int} {B : Bool} (h : okOp op B = true) : ringOp op = true := by unfold okOp at h; simp at h; exact h.1
theorem ok_two {op : Int} {B S : Bool} {W a b : Int} (h : okOp op B = true) (ha : isw B S W a = true) (hb : isw B S W b = true) : twoV op B S W a b = cut B S W (comb op a b) ∧ twoE op B S W a b = 0 := by
  have hk : twoOk op B S W a b = true := by simp [twoOk, ok_may h, ha, hb]
  refine ⟨?_, by unfold twoE; rw [if_pos hk]⟩
  unfold twoV; rw [if_pos hk, if_neg]
  rcases ring_cases (ok_ring h) with rfl | rfl | rfl | rfl | rfl <;> omega
theorem bad_two {op : Int} {B S : Bool} {W a b : Int} (h : twoOk op B S W a b = false) : twoV op B S W a b = 0 ∧ twoE op B S W a b = 1 :=
  ⟨by unfold twoV; rw [h]; rfl, by unfold twoE; rw [h]; rfl⟩

theorem cut_nat {B S : Bool} {k : Nat} {x : Nat} (hm : may B S k = true) : cut B S k (x : Int) = num (row k (bt x)) := by
  unfold cut; rw [if_pos hm, Int.toNat_natCast, num_mod]
theorem val_1 {B S : Bool} {k a b : Nat} (ha' : a < 18446744073709551616) (hb' : b < 18446744073709551616) (hm : may B S k = true) : num (row k (fun i => bt a i * bt b i)) = cut B S k (comb 1 a b) := by
  show _ = cut B S k (bits .and .u64 a b)
  rw [bits_and (by omega) (by omega) (by omega) (by omega), cut_nat hm]
  simp only [Int.toNat_natCast]
  exact congrArg num (row_congr (fun i _ => (bt_and a b i).symm))
theorem val_2 {B S : Bool} {k a b : Nat} (ha' : a < 18446744073709551616) (hb' : b < 18446744073709551616) (hm : may B S k = true) : num (row k (fun i => (bt a i + bt b i + 1) / 2)) = cut B S k (comb 2 a b) := by
  show _ = cut B S k (bits .or .u64 a b)
  rw [bits_or (by omega) (by omega) (by omega) (by omega), cut_nat hm]
  simp only [Int.toNat_natCast]
  exact congrArg num (row_congr (fun i _ => (bt_or a b i).symm))
theorem val_3 {B S : Bool} {k a b : Nat} (ha' : a < 18446744073709551616) (hb' : b < 18446744073709551616) (hm : may B S k = true) : num (row k (fun i => (bt a i + bt b i) % 2)) = cut B S k (comb 3 a b) := by
  show _ = cut B S k (bits .xor .u64 a b)
  rw [bits_xor (by omega) (by omega) (by omega) (by omega), cut_nat hm]
  simp only [Int.toNat_natCast]
  exact congrArg num (row_congr (fun i _ => (bt_xor a b i).symm))
theorem val_4 {S : Bool} {k a b : Nat} (hm : may false S k = true) : num (sumRow k a b) = cut false S k (comb 4 a b) := by
  show _ = cut false S k (IntKind.u64.wrap (a + b))
  have hbd := may_bounds hm
  have h1 : row k (fun i => (row k (bt a)).getD i 0) = row k (bt a) := row_congr (fun i hi => row_getD _ _ _ hi)
  have h2 : row k (fun i => (row k (bt b)).getD i 0) = row k (bt b) := row_congr (fun i hi => row_getD _ _ _ hi)
  unfold sumRow cut
  have h3 := wrap_mod hbd ((a : Int) + b)
  rw [Int.toNat_natCast] at h3
  rw [if_pos hm, sum_mod, h1, h2, num_mod, num_mod, Int.toNat_natCast, h3, Int.add_zero, ← Int.add_emod]
theorem val_6 {S : Bool} {k a b : Nat} (hm : may false S k = true) : (num (row k (bt a)) * num (row k (bt b))) % 2 ^ k = cut false S k (comb 6 a b) := by
  show _ = cut false S k (IntKind.u64.wrap (a * b))
  have hbd := may_bounds hm
  have h3 := wrap_mod hbd ((a : Int) * b)
  rw [Int.toNat_natCast] at h3
  unfold cut
  rw [if_pos hm, num_mod, num_mod, Int.toNat_natCast, h3, ← Int.mul_emod]

theorem rtwo_any (op : Int) (B S : Bool) (W : Int) (a b : Nat) (h : okOp op B = true) (ha : a < 18446744073709551616) (hb : b < 18446744073709551616) (hi : isw B S W a = true) (w : World) :
    Calls Try.prog 31 #[.int .i64 op, .agg #[.bool B, .bool S, .int .i64 W], .int .u64 a, .int .u64 b] w fun e w' => e = .returned (.tuple #[.int .u64 (twoV op B S W a b), .int .i64 (twoE op B S W a b)]) ∧ Below w.heap.size w w' := by
  have hm := isw_may hi
  have hbd := may_bounds hm
  by_cases hj : isw B S W b = true
  · obtain ⟨k, rfl⟩ := Int.eq_ofNat_of_zero_le (show 0 ≤ W by omega)
    have e := ok_two h hi hj
    rw [e.1, e.2]
    have hk1 : 1 ≤ k := by omega
    have hk2 : k ≤ 64 := by omega
    rcases ring_cases (ok_ring h) with rfl | rfl | rfl | rfl | rfl
    · rw [← val_1 ha hb hm]; exact rtwo_1 B S k a b ha hb hk1 hk2 hi hj w
    · rw [← val_2 ha hb hm]; exact rtwo_2 B S k a b ha hb hk1 hk2 hi hj w
    · rw [← val_3 ha hb hm]; exact rtwo_3 B S k a b ha hb hk1 hk2 hi hj w
    · cases B with
      | true => simp [okOp] at h
      | false => rw [← val_4 hm]; exact rtwo_4 S k a b ha hb hk1 hk2 hi hj w
    · cases B with
      | true => simp [okOp] at h
      | false => rw [← val_6 hm]; exact rtwo_6 S k a b ha hb hk1 hk2 hi hj w
  · simp at hj
    have e := bad_two (op := op) (B := B) (S := S) (W := W) (a := a) (b := b) (by unfold twoOk; rw [hj, Bool.and_false])
    rw [e.1, e.2]
    exact rtwo_bad op B S W a b ha hb hi hj w

/-- What 'All' tells. -/
def allF (op : Int) (B S : Bool) (W : Int) (l : List Int) : Int × Int := if neutOk op then allR op B S W l else (0, 1)

theorem isw_zero {B S : Bool} {W : Int} (hm : may B S W = true) : isw B S W 0 = true := isw_mk hm (by decide) (pow_pos' _)
theorem isw_one {B S : Bool} {W : Int} (hm : may B S W = true) : isw B S W 1 = true := isw_mk hm (by decide) (by
  have hbd := may_bounds hm
  have h := two_pow_pred W.toNat (by omega)
  have h2 := pow_pos' (W.toNat - 1)
  omega)
theorem cut_self {B S : Bool} {W n : Int} (h : isw B S W n = true) : cut B S W n = n := by unfold isw at h; simp at h; exact h.2

theorem neut_isw' {op : Int} {B S : Bool} {W : Int} (h : ringOp op = true) (hm : may B S W = true) : isw B S W (neutV op B S W) = true := by
  rcases ring_cases h with rfl | rfl | rfl | rfl | rfl
  · exact cut_isw hm
  · exact isw_zero hm
  · exact isw_zero hm
  · exact isw_zero hm
  · exact isw_one hm

theorem neut_start {op : Int} {B S : Bool} {W : Int} (h : okOp op B = true) (hm : may B S W = true) : allR op B S W [] = (neutV op B S W, 0) := by
  have hn := neut_isw' (ok_ring h) hm
  have e := ok_two h hn hn
  rw [allR_nil, e.1, e.2]
  have hl := isw_lt hn
  have key : comb op (neutV op B S W) (neutV op B S W) = neutV op B S W := by
    rcases ring_cases (ok_ring h) with rfl | rfl | rfl | rfl | rfl
    · show bits .and .u64 _ _ = _
      rw [bits_and hl.1 hl.2 hl.1 hl.2, Nat.and_self, Int.toNat_of_nonneg hl.1]
    · show bits .or .u64 0 0 = 0
      decide +kernel
    · show bits .xor .u64 0 0 = 0
      decide +kernel
    · show IntKind.u64.wrap (0 + 0) = 0
      decide +kernel
    · show IntKind.u64.wrap (1 * 1) = 1
      decide +kernel
  rw [key, cut_self hn]

theorem bad_start {op : Int} {B S : Bool} {W : Int} (h : may B S W = false ∨ mayTwo op B = false) (l : List Int) : allR op B S W l = (0, 1) := by
  have hk : ∀ a b, twoOk op B S W a b = false := by
    intro a b; unfold twoOk
    rcases h with h | h
    · have : isw B S W a = false := by unfold isw; rw [h]; rfl
      rw [this, Bool.and_false]; rfl
    · rw [h]; rfl
  have e0 : allR op B S W [] = (0, 1) := by
    rw [allR_nil, (bad_two (hk _ _)).1, (bad_two (hk _ _)).2]
  have e := allR_stay op B S W l 0 (by rw [List.take_zero, e0]; rfl)
  rw [e, List.take_zero, e0]
end Go.Proofs.Ytmieddcgnaddiaa
