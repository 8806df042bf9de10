/-
  Rows of bools: equal; LevelKnown's calls.
-/
import Derived.Test.YtocfchgkfaogdaaLwA
namespace Go.Proofs.Ytocfchgkfaogdaa
open Go.RowKit Go.Maps
set_option maxRecDepth 100000

/-- A row of bools, as a contract names it. -/
def BRow (w : World) (a : Option Addr) (n : Nat) (l : List Bool) : Prop :=
  l.length = n ∧ n ≤ 9223372036854775807 ∧ (n = 0 ∨ ∃ b off, a = some ⟨b, off, none⟩ ∧ b < w.heap.size ∧ ∀ i, i < n → w.cell? ⟨b, off + i, none⟩ = some (.bool (l.getD i false)))
theorem BRow.step {W w1 : World} {a : Option Addr} {n : Nat} {l : List Bool} (h : BRow W a n l) (hb : Below W.heap.size W w1) : BRow w1 a n l := by
  obtain ⟨h1, h2, h3⟩ := h
  refine ⟨h1, h2, ?_⟩
  rcases h3 with h3 | ⟨b, off, rfl, hlt, hc⟩
  · exact .inl h3
  · exact .inr ⟨b, off, rfl, Nat.lt_of_lt_of_le hlt hb.size, fun i hi => stepc hb hlt (hc i hi)⟩
theorem BRow.len {w : World} {a : Option Addr} {n : Nat} {l : List Bool} (h : BRow w a n l) : l.length = n := h.1
theorem BRow.le {w : World} {a : Option Addr} {n : Nat} {l : List Bool} (h : BRow w a n l) : n ≤ 9223372036854775807 := h.2.1
theorem BRow.at {w : World} {a : Option Addr} {n : Nat} {l : List Bool} (h : BRow w a n l) (hn : 0 < n) : ∃ b off, a = some ⟨b, off, none⟩ ∧ b < w.heap.size ∧ ∀ i, i < n → w.cell? ⟨b, off + i, none⟩ = some (.bool (l.getD i false)) := by
  rcases h.2.2 with h0 | h
  · omega
  · exact h
theorem BRow.of_own {w : World} {base k cap T : Nat} {a : Option Addr} {l : List Bool} (h : w.ownsRow base T 1 (.slice a k cap) k (bools l)) (hl : l.length = k) (hk : k ≤ 9223372036854775807) : BRow w a k l := by
  refine ⟨hl, hk, ?_⟩
  by_cases h0 : k = 0
  · exact .inl h0
  · right
    rcases h.2 with ⟨_, h1⟩ | ⟨g, cap', cur, hv, hb, hh, r⟩
    · exact absurd h1 h0
    · simp at hv
      obtain ⟨rfl, rfl⟩ := hv
      have hc := fun i hi => h.cellAt (j := i) hi
      refine ⟨g, 0, rfl, (Array.getElem?_eq_some_iff.1 hh).1, fun i hi => ?_⟩
      rw [Nat.zero_add, hc i (by omega), bools_get l (by omega)]
theorem bgetD_at {l : List Bool} {p : Nat} (h : p < l.length) : l.getD p false = l[p] := by
  rw [List.getD_eq_getElem?_getD, List.getElem?_eq_getElem h]; rfl
theorem beq_upto {l k : List Bool} {n : Nat} (hl : l.length = n) (hk : k.length = n) (h : ∀ i, i < n → l.getD i false = k.getD i false) : l = k := by
  apply List.ext_getElem (by omega)
  intro i h1 h2
  have := h i (by omega)
  rw [bgetD_at h1, bgetD_at h2] at this
  exact this
set_option maxHeartbeats 2000000 in
theorem bequal_any {w : World} {a b : Option Addr} {n m : Nat} {l k : List Bool} (ha : BRow w a n l) (hb : BRow w b m k) (c d : Nat) :
    Calls Try.prog 19 #[.slice a n c, .slice b m d] w fun e w' => e = .returned (.bool (decide (l = k))) ∧ Below w.heap.size w w' := by
  have hal := ha.len
  have hbl := hb.len
  have hle := ha.le
  by_cases hnm : n = m
  · subst hnm
    have HA := Lib.hid ha
    have HB := Lib.hid hb
    have hne : ((n : Int) != (n : Int)) = false := by simp
    clear ha hb
    go_enter Try.func19, Try.ntmps19
    go_wp2
    go_loopw [13] (fun s wr => ∃ j : Nat, s = .int .i64 j ∧ j ≤ n ∧ Hid (Below w.heap.size w wr) ∧ Hid (∀ i, i < j → l.getD i false = k.getD i false)) (fun s _ => n - (RowKit.intOf s).toNat)
    case atStart => exact ⟨0, rfl, by omega, Lib.hid (Below.refl _ _), Lib.hid (fun i hi => by omega)⟩
    case round =>
      obtain ⟨j, rfl, hj, hB, hK⟩ := hrel
      by_cases hlt : j < n
      · obtain ⟨b1, o1, rfl, hb1, hc1⟩ := HA.out.at (by omega)
        obtain ⟨b2, o2, rfl, hb2, hc2⟩ := HB.out.at (by omega)
        have c1 := stepc hB.out hb1 (hc1 j hlt)
        have c2 := stepc hB.out hb2 (hc2 j hlt)
        have hjn : (j : Int) < n := by omega
        have hK2 := Lib.hid (fun (h : l.getD j false = k.getD j false) => (show ∀ i, i < j + 1 → l.getD i false = k.getD i false from fun i hi => by
          by_cases e : i = j
          · rw [e]; exact h
          · exact hK.out i (by omega)))
        have hK3 := Lib.hid (fun (h : ¬ l.getD j false = k.getD j false) => (show decide (l = k) = false by simp; rintro rfl; exact h rfl))
        generalize l.getD j false = x at *
        generalize k.getD j false = y at *
        have hBn := Lib.hid (fun q => nextw hB.out (below_draws wr q))
        clear hc1 hc2 hK hB
        by_cases hxy : x = y
        · subst hxy
          have hxx : (x != x) = false := by simp
          have r := Lib.hid (hK2.out rfl)
          clear hK2 hK3
          go_wp2
          go_quiet (fail)
          go_wp2
          exact ⟨⟨j + 1, by go_num, by omega, Lib.hid (hBn.out _), r⟩, by simp [RowKit.intOf]; omega⟩
        · have r := Lib.hid (hK3.out hxy)
          clear hK2 hK3
          cases x <;> cases y
          · exact absurd rfl hxy
          · clear hxy
            go_wp2
            go_quiet (fail)
            go_wp2
            go_ret
            exact ⟨ret_bool r.out.symm, hBn.out _⟩
          · clear hxy
            go_wp2
            go_quiet (fail)
            go_wp2
            go_ret
            exact ⟨ret_bool r.out.symm, hBn.out _⟩
          · exact absurd rfl hxy
      · obtain rfl : j = n := by omega
        have r := Lib.hid (show decide (l = k) = true by simp; exact beq_upto hal hbl hK.out)
        clear hK
        go_wp2
        go_ret
        exact ⟨ret_bool r.out.symm, hB.out⟩
  · have hne : ((n : Int) != (m : Int)) = true := by simp; omega
    have r := Lib.hid (show decide (l = k) = false by simp; rintro rfl; omega)
    clear ha hb
    go_enter Try.func19, Try.ntmps19
    go_wp2
    go_ret
    exact ⟨ret_bool r.out.symm, Below.refl _ _⟩

theorem blit_row (w : World) (xs : List Bool) (hx : xs.length ≤ 1000) : BRow (w.alloc (.cells (bools xs).toArray 4)) (some ⟨w.heap.size, 0, none⟩) xs.length xs := by
  refine ⟨rfl, by omega, ?_⟩
  by_cases h0 : xs.length = 0
  · exact .inl h0
  · refine .inr ⟨w.heap.size, 0, rfl, by simp, fun i hi => ?_⟩
    have h1 := heap_alloc_new w (.cells (bools xs).toArray 4)
    rw [Nat.zero_add]
    simp only [World.cell?, h1]
    simp [bools, List.getD, hi]
end Go.Proofs.Ytocfchgkfaogdaa
