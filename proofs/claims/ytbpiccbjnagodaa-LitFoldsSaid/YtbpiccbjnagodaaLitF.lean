/-
  The walk of Over.
-/
import Derived.Test.YtbpiccbjnagodaaLitE
namespace Go.Proofs.Ytbpiccbjnagodaa
open Go.RowKit Bits

/-- The first call behind a box of one cell. -/
theorem box1 {w w1 : World} {x : Value} {T : Nat} (hb : Below (w.alloc (.cells #[x] T)).heap.size (w.alloc (.cells #[x] T)) w1) :
    Below w.heap.size w w1 ∧ w.heap.size + 1 ≤ w1.heap.size ∧ w1.cell? ⟨w.heap.size, 0, none⟩ = some x :=
  ⟨nextb ((Below.refl _ _).alloc (Nat.le_refl _) _) (by simp) hb, by have := hb.size; simpa using this, stepc hb (by simp) (by simp)⟩

set_option maxHeartbeats 1000000 in
theorem over_any (a : Option Addr) (n cap : Nat) (l : List Int) (bb boff bn bcap : Nat) (bys : List Int) (hlit : ∀ i, IsLit (l.getD i 0)) (hn : n ≤ 1000000) (hbn : 1 ≤ bn) (hbn2 : bn ≤ 1000000) (hb0 : bys.getD 0 0 = 0) (hbys : ∀ i, IsLit (bys.getD i 0)) (hin : ∀ i, i < n → l.getD i 0 / 2 < bn) (w : World) (hs : Row .u32 w a n l)
    (hbb : bb < w.heap.size) (hbc : ∀ i, i < bn → w.cell? ⟨bb, boff + i, none⟩ = some (.int .u32 (bys.getD i 0))) :
    Calls Try.prog 20 #[.slice a n cap, .slice (some ⟨bb, boff, none⟩) bn bcap] w fun e w' => ∃ g, e = .returned (.tuple #[.slice (some ⟨g, 0, none⟩) n n, .int .i64 0]) ∧ w'.ownsRow w.heap.size 24 1 (.slice (some ⟨g, 0, none⟩) n n) n ((row n (fun i => overV bys (l.getD i 0))).map (Value.int .u32)) ∧ Below w.heap.size w w' := by
  have HL := Lib.hid hlit
  have HS := Lib.hid hs
  have HIN := Lib.hid hin
  have HBC := Lib.hid hbc
  have HBY := Lib.hid hbys
  have c00 := hbc 0 (by omega)
  rw [hb0, Nat.add_zero] at c00
  have hbe : ((bn : Int) == 0) = false := by simp; omega
  have hb00 : 0 < bn := by omega
  clear hlit hs hin hbc hbys hb0
  go_enter Try.func20, Try.ntmps20
  go_wp2
  clear c00
  go_loopw [20] (fun i wr => ∃ j : Nat, j ≤ n ∧ i = .int .i64 j ∧ Below w.heap.size w wr ∧ w.heap.size + 1 ≤ wr.heap.size ∧ wr.cell? ⟨w.heap.size, 0, none⟩ = some (.slice (some ⟨bb, boff, none⟩) bn bcap)) (fun i _ => n - (intOf i).toNat)
  case atStart => exact ⟨0, Nat.zero_le _, rfl, (Below.refl _ _).alloc (Nat.le_refl _) _, by simp, by simp⟩
  case round =>
    obtain ⟨j, hj, rfl, hB, hz, c0⟩ := hrel
    by_cases hlt : j < n
    · obtain ⟨b, off, rfl, hb, hc⟩ := HS.out.at (by omega)
      have hcj := (hB.cell (p := ⟨b, off + j, none⟩) hb).trans (hc j hlt)
      have hnode := Lib.hid (fun w => Calls.low (node_any _ (HL.out j) w))
      have hi2 := HIN.out j hlt
      have hi0 := (HL.out j).1
      generalize l.getD j 0 = y at *
      obtain ⟨k, hk⟩ := Int.eq_ofNat_of_zero_le (show 0 ≤ y / 2 by omega)
      rw [hk] at hnode hi2
      have hkn : decide (k ≥ bn) = false := by simp; omega
      have hkn2 : k < bn := by omega
      clear hc hk hi0 hi2
      go_wp2
      have c0' := fun z => stepc (ext_below wr z) (by omega) c0
      (refine wp_region_ext (by kernel_rfl) (by kernel_rfl) ?_; (repeat (go_big_quiet_step ((go_at_call 13; exact Calls.ext_of (hnode.out _))))); refine wpQuiet_nil ?_; intro w2 hw'; have hb2 := below_of_ext hw'; clear hw')
      clear c0'
      have c0' := stepc hb2 (by omega) c0
      have hB2 := nextw hB hb2
      have hz2 := Nat.le_trans hz hb2.size
      clear c0 hB hz hb2 hcj
      go_wp2
      go_roundw
      case rel => exact ⟨j + 1, by omega, by go_num, hB2, hz2, c0'⟩
      case measure => simp [intOf]; omega
    · obtain rfl : j = n := by omega
      have hea := Lib.hid (each_over a j cap l w.heap.size bb boff bn bcap bys HL.out hn HBY.out HIN.out wr (HS.out.step hB) (by omega) c0 (Nat.lt_of_lt_of_le hbb hB.size) (fun i hi => stepc hB hbb (HBC.out i hi)))
      have hzz := hB.size
      go_wp2_with (go_at_call 25; refine hea.out.mono ?_; rintro e w2 ⟨rfl, ho, hb2⟩; have ho := Lib.hid (own_base ho hzz); have hB2 := nextw hB hb2; clear hB hb2 hea)
      go_ret2
      exact ⟨wr.heap.size, rfl, ho.out, hB2⟩
end Go.Proofs.Ytbpiccbjnagodaa
