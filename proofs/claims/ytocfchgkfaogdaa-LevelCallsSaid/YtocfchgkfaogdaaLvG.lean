/-
  slices.Equal; rows written out in the text.
-/
import Derived.Test.YtocfchgkfaogdaaLvE
namespace Go.Proofs.Ytocfchgkfaogdaa
open Go.RowKit Go.Maps
set_option maxRecDepth 100000

theorem eq_upto {l k : List Int} {n : Nat} (hl : l.length = n) (hk : k.length = n) (h : ∀ i, i < n → l.getD i 0 = k.getD i 0) : l = k := by
  apply List.ext_getElem (by omega)
  intro i h1 h2
  have := h i (by omega)
  rw [getD_at h1, getD_at h2] at this
  exact this
set_option maxHeartbeats 2000000 in
theorem equal_any {w : World} {a b : Option Addr} {n m : Nat} {l k : List Int} (ha : Row .i64 w a n l) (hb : Row .i64 w b m k) (c d : Nat) :
    Calls Try.prog 18 #[.slice a n c, .slice b m d] w fun e w' => e = .returned (.bool (decide (l = k))) ∧ Below w.heap.size w w' := by
  have hal := ha.len
  have hbl := hb.len
  have hle := ha.le
  by_cases hnm : n = m
  · subst hnm
    have HA := Lib.hid ha
    have HB := Lib.hid hb
    have hne : ((n : Int) != (n : Int)) = false := by simp
    clear ha hb
    go_enter Try.func18, Try.ntmps18
    go_wp2
    go_loopw [13] (fun s wr => ∃ j : Nat, s = .int .i64 j ∧ j ≤ n ∧ Hid (Below w.heap.size w wr) ∧ Hid (∀ i, i < j → l.getD i 0 = k.getD i 0)) (fun s _ => n - (RowKit.intOf s).toNat)
    case atStart => exact ⟨0, rfl, by omega, Lib.hid (Below.refl _ _), Lib.hid (fun i hi => by omega)⟩
    case round =>
      obtain ⟨j, rfl, hj, hB, hK⟩ := hrel
      by_cases hlt : j < n
      · obtain ⟨b1, o1, rfl, hb1, hc1⟩ := HA.out.at (by omega)
        obtain ⟨b2, o2, rfl, hb2, hc2⟩ := HB.out.at (by omega)
        have c1 := stepc hB.out hb1 (hc1 j hlt)
        have c2 := stepc hB.out hb2 (hc2 j hlt)
        have hjn : (j : Int) < n := by omega
        have hK2 := Lib.hid (fun (h : l.getD j 0 = k.getD j 0) => (show ∀ i, i < j + 1 → l.getD i 0 = k.getD i 0 from fun i hi => by
          by_cases e : i = j
          · rw [e]; exact h
          · exact hK.out i (by omega)))
        have hK3 := Lib.hid (fun (h : ¬ l.getD j 0 = k.getD j 0) => (show decide (l = k) = false by simp; rintro rfl; exact h rfl))
        generalize l.getD j 0 = x at *
        generalize k.getD j 0 = y at *
        have hBn := Lib.hid (fun q => nextw hB.out (below_draws wr q))
        clear hc1 hc2 hK hB
        by_cases hxy : x = y
        · subst hxy
          have hxx : ((x : Int) != x) = false := by simp
          have r := Lib.hid (hK2.out rfl)
          clear hK2 hK3
          go_wp2
          go_quiet (fail)
          go_wp2
          exact ⟨⟨j + 1, by go_num, by omega, Lib.hid (hBn.out _), r⟩, by simp [RowKit.intOf]; omega⟩
        · have hxx : ((x : Int) != y) = true := by simpa using hxy
          have r := Lib.hid (hK3.out hxy)
          clear hK2 hK3 hxy
          go_wp2
          go_quiet (fail)
          go_wp2
          go_ret
          exact ⟨ret_bool r.out.symm, hBn.out _⟩
      · obtain rfl : j = n := by omega
        have r := Lib.hid (show decide (l = k) = true by simp; exact eq_upto hal hbl hK.out)
        clear hK
        go_wp2
        go_ret
        exact ⟨ret_bool r.out.symm, hB.out⟩
  · have hne : ((n : Int) != (m : Int)) = true := by simp; omega
    have r := Lib.hid (show decide (l = k) = false by simp; rintro rfl; omega)
    clear ha hb
    go_enter Try.func18, Try.ntmps18
    go_wp2
    go_ret
    exact ⟨ret_bool r.out.symm, Below.refl _ _⟩

/-- A row written out. -/
theorem lit_row (w : World) (xs : List Int) (hx : xs.length ≤ 1000) : Row .i64 (w.alloc (.cells (ints xs).toArray 3)) (some ⟨w.heap.size, 0, none⟩) xs.length xs := by
  refine ⟨rfl, by omega, ?_⟩
  by_cases h0 : xs.length = 0
  · exact .inl h0
  · refine .inr ⟨w.heap.size, 0, rfl, by simp, fun i hi => ?_⟩
    have h1 := heap_alloc_new w (.cells (ints xs).toArray 3)
    rw [Nat.zero_add]
    simp only [World.cell?, h1]
    simp [ints, List.getD, hi]
/-- A row of such rows. -/
theorem lit_rr (w : World) (vs : List (Option Addr × Nat × List Int)) (hv : vs.length ≤ 1000) (h : ∀ v ∈ vs, Row .i64 w v.1 v.2.2.length v.2.2 ∧ v.2.2.length ≤ v.2.1 ∧ v.2.1 ≤ 1000) :
    RR (w.alloc (.cells (vs.map (fun v => Value.slice v.1 v.2.2.length v.2.1)).toArray 23)) (some ⟨w.heap.size, 0, none⟩) vs.length (vs.map (·.2.2)) := by
  have hb : Below w.heap.size w (w.alloc (.cells (vs.map (fun v => Value.slice v.1 v.2.2.length v.2.1)).toArray 23)) := (Below.refl _ _).alloc (Nat.le_refl _) _
  refine ⟨by simp, by omega, .inr ⟨w.heap.size, 0, rfl, by simp, fun i hi => ?_⟩⟩
  have h1 := heap_alloc_new w (.cells (vs.map (fun v => Value.slice v.1 v.2.2.length v.2.1)).toArray 23)
  obtain ⟨r1, r2, r3⟩ := h vs[i] (List.getElem_mem hi)
  have e : (vs.map (·.2.2)).getD i [] = vs[i].2.2 := by simp [List.getD, hi]
  rw [e]
  refine ⟨vs[i].1, vs[i].2.1, ?_, r2, by omega, r1.step hb⟩
  rw [Nat.zero_add]
  simp only [World.cell?, h1]
  simp [hi]
end Go.Proofs.Ytocfchgkfaogdaa
