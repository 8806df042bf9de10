/-
  Package trace: which buses may be.
-/
import Derived.Test.YtnhpjacodhdpeaaDoorTrA
import Derived.Test.YtnhpjacodhdpeaaDoorLanM
namespace Go.Proofs.YtnhpjacodhdpeaaDoor
open Go.RowKit Go.Maps
set_option maxRecDepth 100000

theorem busT_all {L : List TB} (h1 : 1 ≤ L.length) (h2 : L.length ≤ 512) (h : ∀ i, i < L.length → busT L i = true) : busesT L = true := by
  unfold busesT; rw [range_all h]; simp; omega
theorem busT_not {L : List TB} {i : Nat} (hi : i < L.length) (h : busT L i = false) : busesT L = false := by
  unfold busesT; rw [range_not hi h]; simp

set_option maxHeartbeats 2000000 in
theorem mayBuses_any {w : World} {a : Option Addr} {n : Nat} {L : List TB} (h : BsR w a n L) (c : Nat) (hc : n ≤ c) :
    Calls Tryd.prog 49 #[.slice a n c] w fun e w' => e = .returned (.bool (busesT L)) ∧ Below w.heap.size w w' := by
  have hle := h.le
  have H := Lib.hid h
  have hl := h.len
  clear h
  by_cases h1 : n < 1
  · have e : busesT L = false := by unfold busesT; simp; omega
    rw [e]
    have h1' : decide ((n : Int) < 1) = true := by simp; omega
    go_enter Tryd.func49, Tryd.ntmps49
    go_wp2
    go_ret
    exact ⟨rfl, Below.refl _ _⟩
  by_cases h2 : 512 < n
  · have e : busesT L = false := by unfold busesT; simp; omega
    rw [e]
    have h1' : decide ((n : Int) < 1) = false := by simp; omega
    have h2' : decide (512 < (n : Int)) = true := by simp; omega
    go_enter Tryd.func49, Tryd.ntmps49
    go_wp2
    go_ret
    exact ⟨rfl, Below.refl _ _⟩
  have h1' : decide ((n : Int) < 1) = false := by simp; omega
  have h2' : decide (512 < (n : Int)) = false := by simp; omega
  go_enter Tryd.func49, Tryd.ntmps49
  go_wp2
  go_loopw [15] (fun i wr => ∃ j : Nat, j ≤ n ∧ i = .int .i64 j ∧ Hid (Below w.heap.size w wr) ∧ Hid (∀ i, i < j → busT L i = true)) (fun i _ => n - (intOf i).toNat)
  case atStart => exact ⟨0, Nat.zero_le _, rfl, Lib.hid (Below.refl _ _), Lib.hid (fun i hi => by omega)⟩
  case round =>
    obtain ⟨j, hj, rfl, hw, hy⟩ := hrel
    by_cases hlt : j < n
    · obtain ⟨g, off, rfl, hg, hcell⟩ := H.out.at (by omega)
      obtain ⟨b0, b1⟩ := hcell j hlt
      have c0 := stepc hw.out hg b0
      have c1 := stepc hw.out hg b1
      have hjn : (j : Int) < n := by omega
      have hR := Lib.hid ((H.out.step hw.out).take j (by omega))
      clear b0 b1 hcell
      generalize hnm : (L.getD j tb0).name = nm at *
      generalize hwd : (L.getD j tb0).width = wd at *
      have hbox : ∀ x, x = wr.alloc (.cells #[.string nm, .int .i64 wd] 69) → Below wr.heap.size wr x ∧ wr.heap.size < x.heap.size ∧ x.cell? ⟨wr.heap.size, 0, none⟩ = some (.string nm) ∧ x.cell? ⟨wr.heap.size, 1, none⟩ = some (.int .i64 wd) := by
        rintro x rfl
        exact ⟨(Below.refl _ _).alloc (Nat.le_refl _) _, by simp, by simp [go_sem], by simp [go_sem]⟩
      have hbox := Lib.hid hbox
      have hK2 : Hid (busT L j = true → ∀ i, i < j + 1 → busT L i = true) := Lib.hid (fun h i hi => by
        by_cases e : i = j
        · rw [e]; exact h
        · exact hy.out i (by omega))
      have hK3 : Hid (busT L j = false → busesT L = false) := Lib.hid (fun h => busT_not (by omega) h)
      have hbt : Hid (busT L j = (nameT nm && wideT wd && (atT (L.take j) nm).isNone)) := Lib.hid (by show busT L j = _; unfold busT; rw [hnm, hwd])
      have hnA := Lib.hid (fun w => name_any nm w)
      clear hnm hwd hy
      go_upto_region 6 with fail
      generalize hwa : wr.alloc (.cells #[.string nm, .int .i64 wd] 69) = wa
      obtain ⟨hba, hza, d0, d1⟩ := hbox.out wa hwa.symm
      have hatA := Lib.hid (fun q => at_any (hR.out.step (nextw hba (ext_below wa q))) c nm)
      have x0 : ∀ q, (ext wa q).cell? ⟨wr.heap.size, 0, none⟩ = some (.string nm) := fun q => stepc (ext_below wa q) hza d0
      have x1 : ∀ q, (ext wa q).cell? ⟨wr.heap.size, 1, none⟩ = some (.int .i64 wd) := fun q => stepc (ext_below wa q) hza d1
      have hBa := Lib.hid (nextw hw.out hba)
      clear hbox d0 d1 hwa hR hw hba
      rcases (show nameT nm = false ∨ nameT nm = true by cases nameT nm <;> simp) with k1 | k1
      · rw [k1] at hnA hbt
        have r := Lib.hid (hK3.out hbt.out)
        clear hatA hK2 hK3 hbt k1
        (refine wp_region_ext (by kernel_rfl) (by kernel_rfl) ?_; (repeat (go_big_quiet_step ((go_at_call 89; exact Calls.ext_of (hnA.out _))))); refine wpQuiet_nil ?_; intro w2 hw'; have hb2 := below_of_ext hw'; clear hw')
        go_wp2
        go_ret
        exact ⟨ret_bool r.out.symm, nextw hBa.out hb2⟩
      rw [k1] at hnA hbt
      by_cases k2 : wd < 1
      · have g2 : decide (wd < 1) = true := by simpa using k2
        have r := Lib.hid (hK3.out (by rw [hbt.out]; unfold wideT; simp; omega))
        clear hatA hK2 hK3 hbt k1 k2
        (refine wp_region_ext (by kernel_rfl) (by kernel_rfl) ?_; (repeat (go_big_quiet_step ((go_at_call 89; exact Calls.ext_of (hnA.out _))))); refine wpQuiet_nil ?_; intro w2 hw'; have hb2 := below_of_ext hw'; clear hw')
        go_wp2
        go_ret
        exact ⟨ret_bool r.out.symm, nextw hBa.out hb2⟩
      have g2 : decide (wd < 1) = false := by simpa using k2
      by_cases k3 : 64 < wd
      · have g3 : decide (64 < wd) = true := by simpa using k3
        have r := Lib.hid (hK3.out (by rw [hbt.out]; unfold wideT; simp; omega))
        clear hatA hK2 hK3 hbt k1 k2 k3
        (refine wp_region_ext (by kernel_rfl) (by kernel_rfl) ?_; (repeat (go_big_quiet_step ((go_at_call 89; exact Calls.ext_of (hnA.out _))))); refine wpQuiet_nil ?_; intro w2 hw'; have hb2 := below_of_ext hw'; clear hw')
        go_wp2
        go_ret
        exact ⟨ret_bool r.out.symm, nextw hBa.out hb2⟩
      have g3 : decide (64 < wd) = false := by simpa using k3
      have kw : wideT wd = true := by unfold wideT; simp; omega
      rw [kw] at hbt
      clear k1 k2 k3 kw
      cases k4 : (atT (L.take j) nm).isNone
      · have g4 : decide (0 ≤ firstT (atT (L.take j) nm)) = true := by simpa using firstT_some k4
        have r := Lib.hid (hK3.out (by rw [hbt.out, k4]; rfl))
        clear hK2 hK3 hbt k4
        generalize firstT (atT (L.take j) nm) = ft at *
        (refine wp_region_ext (by kernel_rfl) (by kernel_rfl) ?_; (repeat (go_big_quiet_step ((first | (go_at_call 89; exact Calls.ext_of (hnA.out _)) | (go_at_call 46; exact Calls.ext_of (hatA.out _)))))); refine wpQuiet_nil ?_; intro w2 hw'; have hb2 := below_of_ext hw'; clear hw')
        go_wp2
        go_ret
        exact ⟨ret_bool r.out.symm, nextw hBa.out hb2⟩
      · have g4 : decide (0 ≤ firstT (atT (L.take j) nm)) = false := by rw [firstT_none k4]; rfl
        have r := Lib.hid (hK2.out (by rw [hbt.out, k4]; rfl))
        clear hK2 hK3 hbt k4
        generalize firstT (atT (L.take j) nm) = ft at *
        (refine wp_region_ext (by kernel_rfl) (by kernel_rfl) ?_; (repeat (go_big_quiet_step ((first | (go_at_call 89; exact Calls.ext_of (hnA.out _)) | (go_at_call 46; exact Calls.ext_of (hatA.out _)))))); refine wpQuiet_nil ?_; intro w2 hw'; have hb2 := below_of_ext hw'; clear hw')
        go_wp2
        exact ⟨⟨j + 1, by omega, by go_num, Lib.hid (nextw hBa.out hb2), r⟩, by simp [intOf]; omega⟩
    · obtain rfl : j = n := by omega
      go_wp2
      go_ret
      rw [busT_all (by omega) (by omega) (fun i hi => hy.out i (by omega))]
      exact ⟨rfl, hw.out⟩
end Go.Proofs.YtnhpjacodhdpeaaDoor
