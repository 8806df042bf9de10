/-
  Names, widths; a netlist stands; literals that are there.
-/
import Derived.Test.YtjdebancpgpebaaNetW
import Derived.Laws.IdiomStrings
namespace Go.Proofs.Ytjdebancpgpebaa
open Go.RowKit Go.Maps
set_option maxRecDepth 100000

theorem maySpell_any (b : Int) (w : World) :
    Calls Try.prog 41 #[.int .u8 b] w fun e w' => e = .returned (.bool (spellB b)) ∧ w = w' := by
  go_enter Try.func41, Try.ntmps41
  go_wp2
  all_goals go_ret
  all_goals refine ⟨ret_bool ?_, rfl⟩
  all_goals unfold spellB
  all_goals (rw [Bool.eq_iff_iff]; simp; try omega)
theorem mayWide_any (n : Int) (w : World) :
    Calls Try.prog 50 #[.int .i64 n] w fun e w' => e = .returned (.bool (wide n)) ∧ w = w' := by
  go_enter Try.func50, Try.ntmps50
  go_wp2
  all_goals go_ret
  all_goals refine ⟨ret_bool ?_, rfl⟩
  all_goals unfold wide
  all_goals (rw [Bool.eq_iff_iff]; simp; try omega)
theorem bytes_at (w : World) (s : ByteArray) (cap : Nat) (e : Nat) (x : Nat × Nat) {j : Nat} (hj : j < s.size) : (w.alloc (.cells (bytesRow s cap) e x)).drew.cell? ⟨w.heap.size, j, none⟩ = some (.int .u8 ((s.data.toList.getD j 0).toNat : Int)) := by
  have h : j < s.data.size := hj
  have := bytesRow_at s cap j h
  have e1 : s.data.toList.getD j 0 = s.data[j] := by
    rw [List.getD_eq_getElem?_getD, Array.getElem?_toList, Array.getElem?_eq_getElem h]; rfl
  rw [e1, ← this]
  exact World.cell?_alloc_mark w _ _ _ _
def spellAll (l : List UInt8) : Bool := l.all (fun b => spellB b.toNat)
theorem spell_take (l : List UInt8) (j : Nat) (h : j < l.length) : spellAll (l.take (j + 1)) = (spellAll (l.take j) && spellB (l.getD j 0).toNat) := by
  unfold spellAll
  rw [List.take_add_one, List.all_append]
  simp [List.getD, h]
theorem spell_not (l : List UInt8) (j : Nat) (h : j < l.length) (hs : spellB (l.getD j 0).toNat = false) : spellAll l = false := by
  unfold spellAll
  rw [List.all_eq_false]
  refine ⟨l[j], List.getElem_mem _, ?_⟩
  simp [List.getD, h] at hs
  simp [hs]
theorem MayName_any (s : ByteArray) (w : World) :
    Calls Try.prog 10 #[.string s] w fun e w' => e = .returned (.bool (mayName s)) ∧ Below w.heap.size w w' := by
  have hcv2 := fun w => run_bytes_of_string (P := Try.prog) w 9 84 5 s Try.underlying9 Try.underlying84 Try.underlying5
  by_cases h1 : s.size < 1
  · have e : mayName s = false := by unfold mayName; simp; omega
    rw [e]
    have h1' : decide ((s.size : Int) < 1) = true := by simp; omega
    go_enter Try.func10, Try.ntmps10
    go_wp2
    go_ret
    exact ⟨rfl, Below.refl _ _⟩
  by_cases h2 : 80 < s.size
  · have e : mayName s = false := by unfold mayName; simp; omega
    rw [e]
    have h1' : decide ((s.size : Int) < 1) = false := by simp; omega
    have h2' : decide (80 < (s.size : Int)) = true := by simp; omega
    go_enter Try.func10, Try.ntmps10
    go_wp2
    go_ret
    exact ⟨rfl, Below.refl _ _⟩
  have hm : Hid (mayName s = spellAll s.data.toList) := Lib.hid (by unfold mayName; rw [show decide (1 ≤ s.size) = true by simp; omega, show decide (s.size ≤ 80) = true by simp; omega]; rfl)
  have hl : Hid (s.data.toList.length = s.size) := Lib.hid (Array.length_toList)
  have h1' : decide ((s.size : Int) < 1) = false := by simp; omega
  have h2' : decide (80 < (s.size : Int)) = false := by simp; omega
  have hat := Lib.hid (fun cap x j (hj : j < s.size) => bytes_at w s cap 5 x hj)
  have hsp := Lib.hid (fun b w => maySpell_any b w)
  rw [hm.out]
  have hs80 : s.size ≤ 80 := by omega
  have hB0 : Hid (∀ o, Below w.heap.size w (w.alloc o).drew) := Lib.hid (fun o => ((Below.refl _ _).alloc (Nat.le_refl _) o).drew)
  have hsz : Hid (∀ o, w.heap.size < (w.alloc o).drew.heap.size) := Lib.hid (fun o => by simp)
  go_enter Try.func10, Try.ntmps10
  go_wp2
  generalize grownCap w s.size 0 5 = cap
  have hat1 := Lib.hid (hat.out cap ((bytesRow s cap).size, (bytesRow s cap).size + 1))
  have hB1 := Lib.hid (hB0.out (.cells (bytesRow s cap) 5 ((bytesRow s cap).size, (bytesRow s cap).size + 1)))
  have hz1 := hsz.out (.cells (bytesRow s cap) 5 ((bytesRow s cap).size, (bytesRow s cap).size + 1))
  generalize (w.alloc (.cells (bytesRow s cap) 5 ((bytesRow s cap).size, (bytesRow s cap).size + 1))).drew = w1 at *
  clear hat hB0 hsz hcv2
  go_loopw [16] (fun i wr => ∃ j : Nat, j ≤ s.size ∧ i = .int .i64 j ∧ Hid (Below w1.heap.size w1 wr) ∧ Hid (spellAll (s.data.toList.take j) = true)) (fun i _ => s.size - (intOf i).toNat)
  case atStart => exact ⟨0, Nat.zero_le _, rfl, Lib.hid (Below.refl _ _), Lib.hid rfl⟩
  case round =>
    obtain ⟨j, hj, rfl, hw, ht⟩ := hrel
    by_cases hlt : j < s.size
    · have hc := stepc hw.out hz1 (hat1.out j hlt)
      have hn := Lib.hid (spell_not s.data.toList j (by rw [hl.out]; exact hlt))
      have htk := Lib.hid (spell_take s.data.toList j (by rw [hl.out]; exact hlt))
      generalize (s.data.toList.getD j 0).toNat = b at *
      have hsb := Lib.hid (hsp.out b)
      by_cases hb : spellB b = true
      · rw [hb] at hsb
        go_wp2_with (go_at_call 41; (with_reducible refine (hsb.out _).mono ?_); rintro e w2 ⟨rfl, rfl⟩)
        exact ⟨⟨j + 1, by omega, by go_num, hw, Lib.hid (by rw [htk.out, ht.out, hb]; rfl)⟩, by simp [intOf]; omega⟩
      · rw [show spellB b = false by simpa using hb] at hsb
        go_wp2_with (go_at_call 41; (with_reducible refine (hsb.out _).mono ?_); rintro e w2 ⟨rfl, rfl⟩)
        go_ret
        rw [hn.out (by simpa using hb)]
        exact ⟨rfl, nextw hB1.out hw.out⟩
    · obtain rfl : j = s.size := by omega
      rw [← hl.out, List.take_length] at ht
      go_wp2
      go_ret
      rw [ht.out]
      exact ⟨rfl, nextw hB1.out hw.out⟩

/-- A netlist stands. -/
theorem nstands_any {w : World} {q : NPl} {N : Nt} (h : NetIs w q N) (h0 : 0 < N.g.nodes.length) :
    Calls Try.prog 22 #[.pointer (some ⟨q.b, 0, none⟩)] w fun e w' => e = .returned (.bool true) ∧ w = w' := by
  have hn := Lib.hid (nodes_any h.g.lay h0)
  obtain ⟨-, -, -, -, -, -, -, -, -, c0, -⟩ := h.cells
  clear h
  generalize N.g.nodes.length = n at *
  have g0 : decide (0 < (n : Int)) = true := by simp; omega
  go_enter Try.func22, Try.ntmps22
  go_wp2_with (go_at_call 13; (with_reducible refine hn.out.mono ?_); rintro e w2 ⟨rfl, rfl⟩)
  go_ret
  exact ⟨rfl, rfl⟩
theorem allHas_take (G : Gr) (l : List Int) (j : Nat) (h : j < l.length) : allHas G (l.take (j + 1)) = (allHas G (l.take j) && hasB G (l.getD j 0)) := by
  unfold allHas
  rw [List.take_add_one, List.all_append]
  simp [List.getD, h]
theorem allHas_not (G : Gr) (l : List Int) (j : Nat) (h : j < l.length) (hs : hasB G (l.getD j 0) = false) : allHas G l = false := by
  unfold allHas
  rw [List.all_eq_false]
  refine ⟨l[j], List.getElem_mem _, ?_⟩
  simp [List.getD, h] at hs
  simp [hs]
/-- Are all there? -/
theorem has_any {w : World} {q : NPl} {N : Nt} (h : NetIs w q N) (h0 : 0 < N.g.nodes.length) {a : Option Addr} {n c : Nat} {l : List Int} (hs : Row .u32 w a n l) (hl : ∀ x ∈ l, IsLit x) :
    Calls Try.prog 53 #[.pointer (some ⟨q.b, 0, none⟩), .slice a n c] w fun e w' => e = .returned (.bool (allHas N.g l)) ∧ Below w.heap.size w w' := by
  have hn := Lib.hid (nodes_any h.g.lay h0)
  obtain ⟨-, -, -, -, -, -, -, -, -, c0, -⟩ := h.cells
  have HT := Lib.hid (fun j (hj : j < n) => allHas_take N.g l j (by rw [hs.len]; exact hj))
  have HN := Lib.hid (fun j (hj : j < n) => allHas_not N.g l j (by rw [hs.len]; exact hj))
  have HL := Lib.hid (fun j (hj : j < n) => hl (l.getD j 0) (by simp [List.getD, hs.len, hj]))
  have HA : Hid (allHas N.g (l.take n) = allHas N.g l) := Lib.hid (by rw [← hs.len, List.take_length])
  have HZ : Hid (allHas N.g (l.take 0) = true) := Lib.hid rfl
  have HS := Lib.hid hs
  have hle := hs.le
  have HB : Hid (∀ x, hasB N.g x = decide (x / 2 < (N.g.nodes.length : Int))) := Lib.hid (fun x => rfl)
  clear h hs hl
  generalize N.g.nodes.length = k at *
  generalize allHas N.g = P at *
  generalize hasB N.g = B at *
  go_enter Try.func53, Try.ntmps53
  go_wp2_with (go_at_call 13; (with_reducible refine hn.out.mono ?_); rintro e w2 ⟨rfl, rfl⟩)
  go_loopw [15] (fun i wr => ∃ j : Nat, j ≤ n ∧ i = .int .i64 j ∧ Hid (Below w.heap.size w wr) ∧ Hid (P (l.take j) = true)) (fun i _ => n - (intOf i).toNat)
  case atStart => exact ⟨0, Nat.zero_le _, rfl, Lib.hid (Below.refl _ _), HZ⟩
  case round =>
    obtain ⟨j, hj, rfl, hw, ht⟩ := hrel
    by_cases hlt : j < n
    · obtain ⟨b, off, rfl, hb, hc⟩ := HS.out.at (by omega)
      have hcj := stepc hw.out hb (hc j hlt)
      have htk := Lib.hid (HT.out j hlt)
      have hnt := Lib.hid (HN.out j hlt)
      have hlj := HL.out j hlt
      have hBx := Lib.hid (HB.out (l.getD j 0))
      generalize l.getD j 0 = x at *
      have hnode := Lib.hid (fun w => node_any x hlj w)
      clear hc
      by_cases hx : x / 2 < (k : Int)
      · have g0 : decide ((k : Int) ≤ x / 2) = false := by simp; omega
        go_wp2_with (go_at_call 12; (with_reducible refine (hnode.out _).mono ?_); rintro e w2 ⟨rfl, rfl⟩)
        exact ⟨⟨j + 1, by omega, by go_num, hw, Lib.hid (by rw [htk.out, ht.out, hBx.out]; simp [hx])⟩, by simp [intOf]; omega⟩
      · have g0 : decide ((k : Int) ≤ x / 2) = true := by simp; omega
        go_wp2_with (go_at_call 12; (with_reducible refine (hnode.out _).mono ?_); rintro e w2 ⟨rfl, rfl⟩)
        go_ret
        rw [hnt.out (by rw [hBx.out]; simp; omega)]
        exact ⟨rfl, hw.out⟩
    · obtain rfl : j = n := by omega
      go_wp2
      go_ret
      rw [← HA.out, ht.out]
      exact ⟨rfl, hw.out⟩
end Go.Proofs.Ytjdebancpgpebaa
