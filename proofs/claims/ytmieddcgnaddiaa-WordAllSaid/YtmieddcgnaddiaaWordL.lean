/-
  Walks over the law package's own small functions.
-/
import Derived.Test.YtmieddcgnaddiaaWordC
namespace Go.Proofs.Ytmieddcgnaddiaa
open Go.RowKit

def mB (B : Bool) : Bool := B
def mS (B S : Bool) : Bool := if B then false else S
def mW (B : Bool) (W : Int) : Int := if B then 1 else 1 + W % 64

theorem may_made (B S : Bool) (W : Int) : may B (mS B S) (mW B W) = true := by
  cases B <;> simp [may, mS, mW] <;> omega

/-- What 'two' tells. -/
def two (op : Int) (B S : Bool) (W a b : Int) : Int := if twoOk op B S W a b then twoV op B S W a b else 18446744073709551615

set_option maxHeartbeats 400000 in
theorem ltwo_any (op : Int) (B S : Bool) (W a b : Int) (w : World) :
    Calls Try.prog 16 #[.int .i64 op, .agg #[.bool B, .bool S, .int .i64 W], .int .u64 a, .int .u64 b] w fun e w' => e = .returned (.int .u64 (two op B S W a b)) ∧ Below w.heap.size w w' := by
  by_cases hk : twoOk op B S W a b = true
  · have he : twoE op B S W a b = 0 := by unfold twoE; rw [if_pos hk]
    have hfin : Hid (two op B S W a b = twoV op B S W a b) := by show _ = _; unfold two; rw [if_pos hk]
    clear hk
    go_enter Try.func16, Try.ntmps16
    go_wp2_with (first | (go_at_call 18; refine (two_any _ _ _ _ _ _ _).mono ?_; rintro e w2 ⟨rfl, hb2⟩; have hn := box3 (T := 23) hb2; clear hb2; obtain ⟨hB, hz, c0, c1, c2⟩ := hn))
    go_ret
    exact ⟨ret_int hfin.out.symm, hB⟩
  · have he : twoE op B S W a b = 1 := by unfold twoE; rw [if_neg hk]
    have hfin : Hid (two op B S W a b = 18446744073709551615) := by show _ = _; unfold two; rw [if_neg hk]
    clear hk
    go_enter Try.func16, Try.ntmps16
    go_wp2_with (first | (go_at_call 18; refine (two_any _ _ _ _ _ _ _).mono ?_; rintro e w2 ⟨rfl, hb2⟩; have hn := box3 (T := 23) hb2; clear hb2; obtain ⟨hB, hz, c0, c1, c2⟩ := hn))
    go_ret
    exact ⟨ret_int hfin.out.symm, hB⟩

set_option maxHeartbeats 400000 in
theorem u_any (n : Int) (w : World) :
    Calls Try.prog 22 #[.int .i64 n] w fun e w' => e = .returned (.agg #[.bool false, .bool false, .int .i64 n]) ∧ Below w.heap.size w w' := by
  go_enter Try.func22, Try.ntmps22
  go_wp2
  exact bodyPost_ret (v := .agg #[.bool false, .bool false, .int .i64 n]) (by simp [results, Try.results22, go_sem]) rfl ⟨rfl, (Below.refl _ _).alloc (Nat.le_refl _) _⟩

set_option maxHeartbeats 400000 in
theorem i_any (n : Int) (w : World) :
    Calls Try.prog 25 #[.int .i64 n] w fun e w' => e = .returned (.agg #[.bool false, .bool true, .int .i64 n]) ∧ Below w.heap.size w w' := by
  go_enter Try.func25, Try.ntmps25
  go_wp2
  exact bodyPost_ret (v := .agg #[.bool false, .bool true, .int .i64 n]) (by simp [results, Try.results25, go_sem]) rfl ⟨rfl, (Below.refl _ _).alloc (Nat.le_refl _) _⟩

set_option maxHeartbeats 400000 in
theorem bool_any (w : World) :
    Calls Try.prog 24 #[] w fun e w' => e = .returned (.agg #[.bool true, .bool false, .int .i64 1]) ∧ Below w.heap.size w w' := by
  go_enter Try.func24, Try.ntmps24
  go_wp2
  exact bodyPost_ret (v := .agg #[.bool true, .bool false, .int .i64 1]) (by simp [results, Try.results24, go_sem]) rfl ⟨rfl, (Below.refl _ _).alloc (Nat.le_refl _) _⟩

theorem mW_raw (W : Int) : IntKind.u64.wrap W % 64 = W % 64 := by rw [u64w]; omega

set_option maxHeartbeats 400000 in
theorem made_any (B S : Bool) (W : Int) (w : World) :
    Calls Try.prog 13 #[.agg #[.bool B, .bool S, .int .i64 W]] w fun e w' => e = .returned (.agg #[.bool B, .bool (mS B S), .int .i64 (mW B W)]) ∧ Below w.heap.size w w' := by
  cases B
  · have e1 : 0 ≤ IntKind.u64.wrap W := by rw [u64w]; omega
    have e2 : Hid (IntKind.u64.wrap W % 64 = W % 64) := mW_raw W
    have e3 : 0 ≤ IntKind.u64.wrap W % 64 ∧ IntKind.u64.wrap W % 64 < 64 := by omega
    go_enter Try.func13, Try.ntmps13
    go_wp2
    refine bodyPost_ret (v := .agg #[.bool false, .bool S, .int .i64 (1 + IntKind.u64.wrap W % 64)]) (by simp [results, Try.results13, go_sem]) rfl ⟨?_, ((Below.refl _ _).alloc (Nat.le_refl _) _).alloc (by simp) _⟩
    rw [e2.out]; rfl
  · go_enter Try.func13, Try.ntmps13
    go_wp2_with (go_at_call 24; refine (bool_any _).mono ?_; rintro e w2 ⟨rfl, hb2⟩; have hs := hb2.size; simp at hs; obtain ⟨hc, hf⟩ := bcell hb2)
    refine bodyPost_ret (v := .agg #[.bool true, .bool false, .int .i64 1]) (by simp [results, Try.results13, go_sem, hc]) rfl ⟨rfl, ?_⟩
    exact ((((((Below.refl _ _).alloc (Nat.le_refl _) _).alloc (by simp) _).trans (hb2.mono (by simp; omega))).setCell (by simp) _).setCell (by simp) _).setCell (by simp) _


set_option maxRecDepth 100000 in
set_option maxHeartbeats 2000000 in
theorem wakes_any (w : World) :
    Calls Try.prog 12 #[] w fun e w' => e = .returned (.bool true) ∧ Below w.heap.size w w' := by
  have e1 : twoV 4 false false 8 200 100 = 44 := by decide +kernel
  have e2 : twoV 5 false false 8 1 2 = 255 := by decide +kernel
  have e3 : twoV 6 false true 8 100 3 = 44 := by decide +kernel
  have e4 : twoV 9 false true 8 255 1 = 1 := by decide +kernel
  have e5 : oneV 2 false true 8 128 = 128 := by decide +kernel
  have e6 : oneE 2 false true 8 128 = 0 := by decide +kernel
  have e7 : shV false true 8 129 (-1) = 192 := by decide +kernel
  have e8 : shV false false 8 129 1 = 2 := by decide +kernel
  have e9 : coV false true 8 false false 16 255 = 65535 := by decide +kernel
  have e10 : coV false false 16 false true 8 300 = 44 := by decide +kernel
  have hB := Below.refl w.heap.size w
  go_enter Try.func12, Try.ntmps12
  go_wp2_with (first
    | (go_at_call 22; refine (u_any _ _).mono ?_; rintro e w2 ⟨rfl, hb2⟩; have hn := nextw hB hb2; clear hB hb2; have hB := hn; clear hn)
    | (go_at_call 25; refine (i_any _ _).mono ?_; rintro e w2 ⟨rfl, hb2⟩; have hn := nextw hB hb2; clear hB hb2; have hB := hn; clear hn)
    | (go_at_call 18; refine (two_any _ _ _ _ _ _ _).mono ?_; rintro e w2 ⟨rfl, hb2⟩; have hn := nextw hB hb2; clear hB hb2; have hB := hn; clear hn)
    | (go_at_call 17; refine (one_any _ _ _ _ _ _).mono ?_; rintro e w2 ⟨rfl, hb2⟩; have hn := nextw hB hb2; clear hB hb2; have hB := hn; clear hn)
    | (go_at_call 20; refine (shift_any _ _ _ _ _ _).mono ?_; rintro e w2 ⟨rfl, hb2⟩; have hn := nextw hB hb2; clear hB hb2; have hB := hn; clear hn)
    | (go_at_call 21; refine (conv_any _ _ _ _ _ _ _ _).mono ?_; rintro e w2 ⟨rfl, hb2⟩; have hn := nextw hB hb2; clear hB hb2; have hB := hn; clear hn))
  go_ret
  exact ⟨rfl, hB⟩
end Go.Proofs.Ytmieddcgnaddiaa
