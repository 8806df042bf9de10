/-
  Package trace: a column; where two tables differ.
-/
import Derived.Test.YtnhpjacodhdpeaaDoorTrD
import Derived.Test.YtnhpjacodhdpeaaDoorTrG
namespace Go.Proofs.YtnhpjacodhdpeaaDoor
open Go.RowKit Go.Maps Bits
set_option maxRecDepth 100000

def colF (R : List (List Int)) (k i : Nat) : Int := (R.getD i []).getD k 0
def colT (L : List TB) (R : List (List Int)) (s : ByteArray) : Option (List Int) := match atT L s with
  | none => none
  | some k => if mayT L R = true then some (row R.length (colF R k)) else none
def ColOk (w w' : World) (e : Ending) : Option (List Int) → Prop
  | none => e = .returned (.tuple #[.slice none 0 0, .bool false])
  | some l => ∃ v, e = .returned (.tuple #[v, .bool true]) ∧ w'.ownsRow w.heap.size 46 1 v l.length (l.map (Value.int .u64))
theorem atT_lt {L : List TB} {s : ByteArray} {k : Nat} (h : atT L s = some k) : k < L.length := by
  unfold atT at h
  rw [List.findIdx?_eq_some_iff_getElem] at h
  exact h.1

set_option maxHeartbeats 4000000 in
theorem Column_any {w : World} {a a2 : Option Addr} {n m : Nat} {L : List TB} {R : List (List Int)} (h : BsR w a n L) (h2 : RRk .u64 w a2 m R) (c c2 : Nat) (hc : n ≤ c) (s : ByteArray) :
    Calls Tryd.prog 14 #[.agg #[.slice a n c, .slice a2 m c2], .string s] w fun e w' => ColOk w w' e (colT L R s) ∧ Below w.heap.size w w' := by
  obtain ⟨i0, hin, hz0, hz1, hz2⟩ := info_parts info_u64t
  have hx := tbox _ (rfl : w.alloc (.cells #[.slice a n c, .slice a2 m c2] 25) = _)
  have hat := Lib.hid (fun w3 (hb : Below w.heap.size w w3) => at_any (h.step hb) c s)
  have hmay := Lib.hid (fun w3 (hb : Below w.heap.size w w3) => May_any (h.step hb) (h2.step hb) c c2 hc)
  have hle2 := h2.2.1
  have e1 := h.len
  have e2 := h2.1
  have HR := Lib.hid h2
  clear h h2
  cases hk : atT L s with
  | none =>
    have hcol : Hid (colT L R s = none) := Lib.hid (by unfold colT; rw [hk])
    rw [hk] at hat
    clear hk
    rw [hcol.out]
    go_enter Tryd.func14, Tryd.ntmps14
    go_upto_region 1 with fail
    generalize w.alloc (.cells #[.slice a n c, .slice a2 m c2] 25) = wb at *
    obtain ⟨hbx, hlt, c0, c1⟩ := hx
    have hb1 := Lib.hid hbx
    have hcall := Lib.hid (hat.out wb hbx)
    clear hat hbx
    go_wp2_with (go_at_call 46; (with_reducible refine hcall.out.mono ?_); rintro e w5 ⟨rfl, hb5⟩; have hB5 := Lib.hid (nextw hb1.out hb5); clear hb5; rw [show firstT none = -1 from rfl])
    go_ret2
    exact ⟨rfl, hB5.out⟩
  | some k =>
    have hkl := atT_lt hk
    have hneg : ¬ ((k : Int) < 0) := by omega
    rcases (show mayT L R = false ∨ mayT L R = true by cases mayT L R <;> simp) with hm | hm
    · have hcol : Hid (colT L R s = none) := Lib.hid (by unfold colT; rw [hk]; simp [hm])
      rw [hk] at hat
      rw [hm] at hmay
      clear hk hm
      rw [hcol.out]
      go_enter Tryd.func14, Tryd.ntmps14
      go_upto_region 1 with fail
      generalize w.alloc (.cells #[.slice a n c, .slice a2 m c2] 25) = wb at *
      obtain ⟨hbx, hlt, c0, c1⟩ := hx
      have hb1 := Lib.hid hbx
      have hcall := Lib.hid (hat.out wb hbx)
      clear hat hbx
      go_wp2_with (first
        | (go_at_call 46; (with_reducible refine hcall.out.mono ?_); rintro e w5 ⟨rfl, hb5⟩; have hB5 := Lib.hid (nextw hb1.out hb5); have d0 := stepc hb5 hlt c0; have d1 := stepc hb5 hlt c1; have hmc := Lib.hid (hmay.out w5 hB5.out); clear hb5 c0 c1 hcall hmay; rw [show firstT (some k) = (k : Int) from rfl])
        | (go_at_call 20; (with_reducible refine hmc.out.mono ?_); rintro e w6 ⟨rfl, hb6⟩; have hB6 := Lib.hid (nextw hB5.out hb6); clear hb6))
      go_ret2
      exact ⟨rfl, hB6.out⟩
    · have hcol : Hid (colT L R s = some (row m (colF R k))) := Lib.hid (by unfold colT; rw [hk, ← e2]; simp [hm])
      have hlen := Lib.hid (fun i (hi : i < m) => ((mayT_of hm).2.2 i (by omega)).1)
      have hm4 := (mayT_of hm).2.1
      rw [hk] at hat
      rw [hm] at hmay
      clear hk hm
      rw [hcol.out]
      have hF := Lib.hid (show ∀ i, colF R k i = (R.getD i []).getD k 0 from fun i => rfl)
      generalize colF R k = F at *
      have HZ := Lib.hid (fillK_zero .u64 F m)
      go_enter Tryd.func14, Tryd.ntmps14
      go_upto_region 1 with fail
      generalize w.alloc (.cells #[.slice a n c, .slice a2 m c2] 25) = wb at *
      obtain ⟨hbx, hlt, c0, c1⟩ := hx
      have hb1 := Lib.hid hbx
      have hcall := Lib.hid (hat.out wb hbx)
      clear hat hbx
      go_upto_region 5 with (first
        | (go_at_call 46; (with_reducible refine hcall.out.mono ?_); rintro e w5 ⟨rfl, hb5⟩; have hB5 := Lib.hid (nextw hb1.out hb5); have d0 := stepc hb5 hlt c0; have d1 := stepc hb5 hlt c1; have hz5 := Nat.lt_of_lt_of_le hlt hb5.size; have hmc := Lib.hid (hmay.out w5 hB5.out); clear hb5 c0 c1 hcall hmay; rw [show firstT (some k) = (k : Int) from rfl])
        | (go_at_call 20; (with_reducible refine hmc.out.mono ?_); rintro e w6 ⟨rfl, hb6⟩; have hB6 := Lib.hid (nextw hB5.out hb6); have d0' := stepc hb6 hz5 d0; have d1' := stepc hb6 hz5 d1; have hz6 := Nat.lt_of_lt_of_le hz5 hb6.size; clear hb6 d0 d1 hmc)
        | (at_make; refine wpList_make_full _ rfl _ _ 37 rfl w6.heap.size 46 i0 (.int .u64 0) 1 Tryd.underlying37 hin hz0 hz1 .i64 .i64 m m m rfl rfl rfl rfl (by rw [hz2]; omega) (by unfold maxLen; omega) (Nat.le_refl _) ?_; intro w7 hown hg; have hbg := (Below.refl w6.heap.size w6).grown hg (Nat.le_refl _) (fun _ h => by cases h); have d1'' := stepc hbg hz6 d1'; have hB7 := Lib.hid (nextw hB6.out hbg); clear hbg hg d0' d1'))
      go_wp2
      clear d1''
      go_loopw [28] (fun i wr => ∃ j : Nat, j ≤ m ∧ i = .int .i64 j ∧ Hid (wr.ownsRow w6.heap.size 46 1 (.slice (some ⟨w6.heap.size, 0, none⟩) m m) m ((fillF F m j).map (Value.int .u64))) ∧ Hid (Below w.heap.size w wr)) (fun i _ => m - (intOf i).toNat)
      case atStart => exact ⟨0, Nat.zero_le _, rfl, Lib.hid (by rw [← HZ.out]; exact hown), hB7⟩
      case round =>
        clear hown HZ hB7
        obtain ⟨j, hj, rfl, hown, hw⟩ := hrel
        by_cases hlj : j < m
        · obtain ⟨b, off, rfl, hb, hcell⟩ := (HR.out.step hw.out).at (by omega)
          obtain ⟨ai, ci, r1, r2, r3, r4⟩ := hcell j hlj
          have hl := hlen.out j hlj
          obtain ⟨rb, ro, rfl, hrb, hrc⟩ := r4.at (by omega)
          have rk := hrc k (by omega)
          have hFj := hF.out j
          rw [← hFj] at rk
          have hjm : (j : Int) < m := by omega
          have hkk : (k : Int) < (L.length : Int) := by omega
          have hk0 : (0 : Int) ≤ k := by omega
          have hj0 : (0 : Int) ≤ j := by omega
          obtain ⟨⟨u, hu⟩, hfz, hst, hbs⟩ := fill_put hown.out hlj
          rw [hl] at r1
          have hst := Lib.hid hst
          have hbs := Lib.hid hbs
          have hz7 : w.heap.size ≤ w6.heap.size := hB6.out.size
          clear hcell hrc r4 hFj hown
          go_wp2
          exact ⟨⟨j + 1, by omega, by go_num, hst, Lib.hid (hw.out.trans (hbs.out.mono hz7))⟩, by simp [intOf]; omega⟩
        · obtain rfl : j = m := by omega
          rw [fillF_full] at hown
          have hz7 : w.heap.size ≤ w6.heap.size := hB6.out.size
          go_wp2
          go_ret2
          exact ⟨⟨_, rfl, by have := own_base hown.out hz7; simpa [row] using this⟩, hw.out⟩
end Go.Proofs.YtnhpjacodhdpeaaDoor
