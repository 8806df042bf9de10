/-
  The walks of Const, Number, Turn.
-/
import Derived.Test.YtbpiccbjnagodaaOwn
import Derived.Test.YtbpiccbjnagodaaLitB
namespace Go.Proofs.Ytbpiccbjnagodaa
open Go.RowKit Bits

theorem info_lit : (Try.prog.info? 24).map (fun i => (i.zero, i.size, i.bytes)) = some (some (.int .u32 0), 1, 4) := by kernel_rfl

theorem if0_bt (m a j : Nat) (hm : m = a / 2 ^ j) (hm2 : m < 18446744073709551616) : ifV 0 (bits .and .u64 m 1 == 1) = bt a j := by
  rw [Num.one64 (by omega) (by omega)]
  unfold ifV notV bt
  rcases Nat.mod_two_eq_zero_or_one m with h | h
  · have e : ((m : Int) % 2 == 1) = false := by simp; omega
    rw [e, ← hm, h]; rfl
  · have e : ((m : Int) % 2 == 1) = true := by simp; omega
    rw [e, ← hm, h]; rfl

set_option maxHeartbeats 1000000 in
theorem const_any (a k : Nat) (ha : a < 18446744073709551616) (hk : k ≤ 64) (w : World) :
    Calls Try.prog 22 #[.int .u64 a, .int .i64 k] w fun e w' => e = .returned (.slice (some ⟨w.heap.size, 0, none⟩) k k) ∧ w'.ownsRow w.heap.size 24 1 (.slice (some ⟨w.heap.size, 0, none⟩) k k) k ((row k (bt a)).map (Value.int .u32)) ∧ Below w.heap.size w w' := by
  obtain ⟨i0, hi, hz0, hz1, hz2⟩ := info_parts info_lit
  have hif := Lib.hid (fun t w => if_any 0 t (by unfold IsLit; omega) w)
  go_enter Try.func22, Try.ntmps22
  go_wp2_with (at_make; refine wpList_make_full _ rfl _ _ 49 rfl w.heap.size 24 i0 (.int .u32 0) 1 Try.underlying49 hi hz0 hz1 .i64 .i64 k k k rfl rfl rfl rfl (by rw [hz2]; omega) (by unfold maxLen; omega) (Nat.le_refl _) ?_; intro w1 hown hg)
  have HI := Lib.hid (fillK_zero .u32 (bt a) k)
  go_loopw [13] (fun i wr => ∃ j : Nat, j ≤ k ∧ i = .int .i64 j ∧ wr.ownsRow w.heap.size 24 1 (.slice (some ⟨w.heap.size, 0, none⟩) k k) k ((fillF (bt a) k j).map (Value.int .u32)) ∧ Below w.heap.size w wr) (fun i _ => k - (intOf i).toNat)
  case atStart => exact ⟨0, Nat.zero_le _, rfl, by rw [← HI.out]; exact hown, (Below.refl _ _).grown hg (Nat.le_refl _) (fun _ h => by cases h)⟩
  case round =>
    clear hown hg HI
    obtain ⟨j, hj, rfl, hown, hB⟩ := hrel
    by_cases hlt : j < k
    · have hcl := hown.cellAt (j := j) (by simpa using hlt)
      have hfr := hown.frozenAt j
      have hst := Lib.hid (hown.stored j (.int .u32 (bt a j)))
      have hlen := fillK_len .u32 (bt a) k j
      have hsome : (wr.cell? ⟨w.heap.size, j, none⟩).isSome = true := by rw [hcl]; simp [hlen, hlt]
      obtain ⟨u, hu⟩ := Option.isSome_iff_exists.1 hsome
      obtain ⟨m, hm⟩ : ∃ m : Nat, m = a / 2 ^ j := ⟨_, rfl⟩
      have hm1 : m < 18446744073709551616 := by have := Nat.div_le_self a (2 ^ j); omega
      have hbt := Lib.hid (if0_bt m a j hm hm1)
      have hsh : ((a : Int) / 2 ^ j) = (m : Int) := by rw [hm]; push_cast; rfl
      clear hsome hlen hcl hm
      go_wp2_with (first
        | (go_at_call 16; refine (hif.out _ _).mono ?_; rintro e w2 ⟨rfl, rfl⟩))
      go_roundw
      case rel =>
        refine ⟨j + 1, by omega, by go_num, ?_, ?_⟩
        · have e := hst.out.1
          rw [fillK_set] at e
          rw [hbt.out]; exact e
        · exact hB.setCell (Nat.le_refl _) _
      case measure => simp [intOf]; omega
    · obtain rfl : j = k := by omega
      have HF := Lib.hid (fillF_full (bt a) j)
      go_wp2
      go_ret
      exact ⟨rfl, by rw [← HF.out]; exact hown, hB⟩
end Go.Proofs.Ytbpiccbjnagodaa
