/-
  Over of package lit (as stage 2 has it).
-/
import Derived.Test.YtmljpbbnllfgbaaAigAt
namespace Go.Proofs.Ytmljpbbnllfgbaa
open Go.RowKit Bits
set_option maxRecDepth 100000

theorem Calls.low {P : Program} {f : FuncId} {args : Array Value} {x : World} {v : Value}
    (h : Calls P f args x fun e w' => e = .returned v ∧ x = w') : Calls P f args x fun e w' => e = .returned v ∧ Below x.heap.size x w' :=
  h.mono fun _ _ ⟨he, hw⟩ => ⟨he, hw ▸ Below.refl _ _⟩
/-- What Over's own function makes of a literal. -/
def overV (bys : List Int) (l : Int) : Int := ifV (bys.getD (l / 2).toNat 0) (turnV l)
set_option maxHeartbeats 1000000 in
theorem over1_any (q bb off bn bcap : Nat) (bys : List Int) (l : Int) (hl : IsLit l) (hbys : ∀ i, IsLit (bys.getD i 0)) (hin : l / 2 < bn) (w : World) (hq : q < w.heap.size) (hqc : w.cell? ⟨q, 0, none⟩ = some (.slice (some ⟨bb, off, none⟩) bn bcap))
    (hb : bb < w.heap.size) (hc : ∀ i, i < bn → w.cell? ⟨bb, off + i, none⟩ = some (.int .u32 (bys.getD i 0))) :
    Calls Try.prog 71 #[.int .u32 l, .pointer (some ⟨q, 0, none⟩)] w fun e w' => e = .returned (.int .u32 (overV bys l)) ∧ Below w.heap.size w w' := by
  obtain ⟨k, hk⟩ := Int.eq_ofNat_of_zero_le (show 0 ≤ l / 2 by have := hl.1; omega)
  have hck := hc k (by omega)
  have hnode := Lib.hid (fun w => Calls.low (node_any l hl w))
  have hturn := Lib.hid (fun w => Calls.low (turned_any l hl w))
  have hif := Lib.hid (fun w => Calls.low (if_any (bys.getD k 0) (turnV l) (hbys k) w))
  have hv : Hid (overV bys l = ifV (bys.getD k 0) (turnV l)) := by show _ = _; unfold overV; rw [hk]; rfl
  have hkn : k < bn := by omega
  rw [hk] at hnode
  generalize bys.getD k 0 = y at *
  generalize turnV l = T at *
  clear hc hbys hin hl hk
  go_enter Try.func71, Try.ntmps71
  go_wp2
  have hqc2 := fun z => stepc (ext_below w z) hq hqc
  have hck2 := fun z => stepc (ext_below w z) hb hck
  (refine wp_region_ext (by kernel_rfl) (by kernel_rfl) ?_; (repeat (go_big_quiet_step ((first | (go_at_call 22; exact Calls.ext_of (hnode.out _)) | (go_at_call 44; exact Calls.ext_of (hturn.out _)) | (go_at_call 43; exact Calls.ext_of (hif.out _)))))); refine wpQuiet_nil ?_; intro w2 hw'; have hb2 := below_of_ext hw'; clear hw')
  clear hqc2 hck2 hqc hck
  go_wp2
  go_ret
  exact ⟨ret_int hv.out.symm, hb2⟩
set_option maxHeartbeats 1000000 in
theorem each_over (a : Option Addr) (n cap : Nat) (l : List Int) (q bb boff bn bcap : Nat) (bys : List Int) (hlit : ∀ i, IsLit (l.getD i 0)) (hn : n ≤ 1000000) (hbys : ∀ i, IsLit (bys.getD i 0)) (hin : ∀ i, i < n → l.getD i 0 / 2 < bn) (w : World) (hs : Row .u32 w a n l)
    (hq : q < w.heap.size) (hqc : w.cell? ⟨q, 0, none⟩ = some (.slice (some ⟨bb, boff, none⟩) bn bcap)) (hbb : bb < w.heap.size) (hbc : ∀ i, i < bn → w.cell? ⟨bb, boff + i, none⟩ = some (.int .u32 (bys.getD i 0))) :
    Calls Try.prog 72 #[.func (.func 71) #[] #[.pointer (some ⟨q, 0, none⟩)], .slice a n cap] w fun e w' => e = .returned (.slice (some ⟨w.heap.size, 0, none⟩) n n) ∧ w'.ownsRow w.heap.size 40 1 (.slice (some ⟨w.heap.size, 0, none⟩) n n) n ((row n (fun i => overV bys (l.getD i 0))).map (Value.int .u32)) ∧ Below w.heap.size w w' := by
  have HN := Lib.hid (fun (wr : World) (hB : Below w.heap.size w wr) (y : Int) (hl : IsLit y) (hi : y / 2 < bn) => over1_any q bb boff bn bcap bys y hl hbys hi wr (Nat.lt_of_lt_of_le hq hB.size) (stepc hB hq hqc) (Nat.lt_of_lt_of_le hbb hB.size) (fun i hi => stepc hB hbb (hbc i hi)))
  have HIN := Lib.hid hin
  clear hq hqc hbb hbc hin hbys
  obtain ⟨i0, hi, hz0, hz1, hz2⟩ := info_parts info_lit
  have HL := Lib.hid hlit
  have HS := Lib.hid hs
  clear hlit hs
  go_enter Try.func72, Try.ntmps72
  go_wp2_with (at_make; refine wpList_make_full _ rfl _ _ 34 rfl w.heap.size 40 i0 (.int .u32 0) 1 Try.underlying34 hi hz0 hz1 .i64 .i64 n n n rfl rfl rfl rfl (by rw [hz2]; omega) (by unfold maxLen; omega) (Nat.le_refl _) ?_; intro w1 hown hg)
  have HI := Lib.hid (fillK_zero .u32 (fun i => overV bys (l.getD i 0)) n)
  go_loopw [13] (fun i wr => ∃ j : Nat, j ≤ n ∧ i = .int .i64 j ∧ wr.ownsRow w.heap.size 40 1 (.slice (some ⟨w.heap.size, 0, none⟩) n n) n ((fillF (fun i => overV bys (l.getD i 0)) n j).map (Value.int .u32)) ∧ Below w.heap.size w wr) (fun i _ => n - (intOf i).toNat)
  case atStart => exact ⟨0, Nat.zero_le _, rfl, by rw [← HI.out]; exact hown, (Below.refl _ _).grown hg (Nat.le_refl _) (fun _ h => by cases h)⟩
  case round =>
    clear hown hg HI
    obtain ⟨j, hj, rfl, hown, hB⟩ := hrel
    by_cases hlt : j < n
    · obtain ⟨b, off, rfl, hb, hc⟩ := HS.out.at (by omega)
      have hcj := (hB.cell (p := ⟨b, off + j, none⟩) hb).trans (hc j hlt)
      have hca := Lib.hid (HN.out wr hB _ (HL.out j) (HIN.out j hlt))
      generalize hgy : l.getD j 0 = y at hcj hca
      have hgy := Lib.hid hgy
      have hown := Lib.hid hown
      clear hc
      go_wp2_with (go_at_call 71; refine hca.out.mono ?_; rintro e w2 ⟨rfl, hb2⟩; have ho2 := own_below hown.out hb2; have hfr := ho2.frozenAt j; obtain ⟨u, hu⟩ := own_some ho2 hlt; have hst := Lib.hid (ho2.stored j (.int .u32 ((fun i => overV bys (l.getD i 0)) j))).1; have hB2 := nextw hB hb2; clear hown ho2 hB hcj hb2)
      go_roundw
      case rel =>
        refine ⟨j + 1, by omega, by go_num, ?_, ?_⟩
        · have e := hst.out
          rw [fillK_set] at e
          rw [← hgy.out]; exact e
        · exact hB2.setCell (Nat.le_refl _) _
      case measure => simp [intOf]; omega
    · obtain rfl : j = n := by omega
      have HF := Lib.hid (fillF_full (fun i => overV bys (l.getD i 0)) j)
      go_wp2
      go_ret
      exact ⟨rfl, by rw [← HF.out]; exact hown, hB⟩
/-- The first call behind a box of one cell. -/
theorem box1 {w w1 : World} {x : Value} {T : Nat} (hb : Below (w.alloc (.cells #[x] T)).heap.size (w.alloc (.cells #[x] T)) w1) :
    Below w.heap.size w w1 ∧ w.heap.size + 1 ≤ w1.heap.size ∧ w1.cell? ⟨w.heap.size, 0, none⟩ = some x :=
  ⟨nextb ((Below.refl _ _).alloc (Nat.le_refl _) _) (by simp) hb, by have := hb.size; simpa using this, stepc hb (by simp) (by simp)⟩
set_option maxHeartbeats 1000000 in
theorem over_any (a : Option Addr) (n cap : Nat) (l : List Int) (bb boff bn bcap : Nat) (bys : List Int) (hlit : ∀ i, IsLit (l.getD i 0)) (hn : n ≤ 1000000) (hbn : 1 ≤ bn) (hbn2 : bn ≤ 1000000) (hb0 : bys.getD 0 0 = 0) (hbys : ∀ i, IsLit (bys.getD i 0)) (hin : ∀ i, i < n → l.getD i 0 / 2 < bn) (w : World) (hs : Row .u32 w a n l)
    (hbb : bb < w.heap.size) (hbc : ∀ i, i < bn → w.cell? ⟨bb, boff + i, none⟩ = some (.int .u32 (bys.getD i 0))) :
    Calls Try.prog 47 #[.slice a n cap, .slice (some ⟨bb, boff, none⟩) bn bcap] w fun e w' => ∃ g, e = .returned (.tuple #[.slice (some ⟨g, 0, none⟩) n n, .int .i64 0]) ∧ w'.ownsRow w.heap.size 40 1 (.slice (some ⟨g, 0, none⟩) n n) n ((row n (fun i => overV bys (l.getD i 0))).map (Value.int .u32)) ∧ Below w.heap.size w w' := by
  have HL := Lib.hid hlit
  have HS := Lib.hid hs
  have HIN := Lib.hid hin
  have HBC := Lib.hid hbc
  have HBY := Lib.hid hbys
  have c00 := hbc 0 (by omega)
  rw [hb0, Nat.add_zero] at c00
  have hbe : ((bn : Int) == 0) = false := by simp; omega
  have hb00 : 0 < bn := by omega
  clear hlit hs hin hbc hbys hb0
  go_enter Try.func47, Try.ntmps47
  go_wp2
  clear c00
  go_loopw [20] (fun i wr => ∃ j : Nat, j ≤ n ∧ i = .int .i64 j ∧ Below w.heap.size w wr ∧ w.heap.size + 1 ≤ wr.heap.size ∧ wr.cell? ⟨w.heap.size, 0, none⟩ = some (.slice (some ⟨bb, boff, none⟩) bn bcap)) (fun i _ => n - (intOf i).toNat)
  case atStart => exact ⟨0, Nat.zero_le _, rfl, (Below.refl _ _).alloc (Nat.le_refl _) _, by simp, by simp⟩
  case round =>
    obtain ⟨j, hj, rfl, hB, hz, c0⟩ := hrel
    by_cases hlt : j < n
    · obtain ⟨b, off, rfl, hb, hc⟩ := HS.out.at (by omega)
      have hcj := (hB.cell (p := ⟨b, off + j, none⟩) hb).trans (hc j hlt)
      have hnode := Lib.hid (fun w => Calls.low (node_any _ (HL.out j) w))
      have hi2 := HIN.out j hlt
      have hi0 := (HL.out j).1
      generalize l.getD j 0 = y at *
      obtain ⟨k, hk⟩ := Int.eq_ofNat_of_zero_le (show 0 ≤ y / 2 by omega)
      rw [hk] at hnode hi2
      have hkn : decide (k ≥ bn) = false := by simp; omega
      have hkn2 : k < bn := by omega
      clear hc hk hi0 hi2
      go_wp2
      have c0' := fun z => stepc (ext_below wr z) (by omega) c0
      (refine wp_region_ext (by kernel_rfl) (by kernel_rfl) ?_; (repeat (go_big_quiet_step ((go_at_call 22; exact Calls.ext_of (hnode.out _))))); refine wpQuiet_nil ?_; intro w2 hw'; have hb2 := below_of_ext hw'; clear hw')
      clear c0'
      have c0' := stepc hb2 (by omega) c0
      have hB2 := nextw hB hb2
      have hz2 := Nat.le_trans hz hb2.size
      clear c0 hB hz hb2 hcj
      go_wp2
      go_roundw
      case rel => exact ⟨j + 1, by omega, by go_num, hB2, hz2, c0'⟩
      case measure => simp [intOf]; omega
    · obtain rfl : j = n := by omega
      have hea := Lib.hid (each_over a j cap l w.heap.size bb boff bn bcap bys HL.out hn HBY.out HIN.out wr (HS.out.step hB) (by omega) c0 (Nat.lt_of_lt_of_le hbb hB.size) (fun i hi => stepc hB hbb (HBC.out i hi)))
      have hzz := hB.size
      go_wp2_with (go_at_call 72; refine hea.out.mono ?_; rintro e w2 ⟨rfl, ho, hb2⟩; have ho := Lib.hid (own_base ho hzz); have hB2 := nextw hB hb2; clear hB hb2 hea)
      go_ret2
      exact ⟨wr.heap.size, rfl, ho.out, hB2⟩
end Go.Proofs.Ytmljpbbnllfgbaa
