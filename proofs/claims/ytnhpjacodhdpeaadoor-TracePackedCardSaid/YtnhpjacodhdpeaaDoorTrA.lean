/-
  Package trace: names; where a bus of a name is.
-/
import Derived.Test.YtnhpjacodhdpeaaDoorTrM
import Derived.Laws.IdiomStrings
import Derived.Deep.CutBlock
import Derived.Deep.DeepCutAuto
namespace Go.Proofs.YtnhpjacodhdpeaaDoor
open Go.RowKit Go.Maps
set_option maxRecDepth 100000

theorem spell_any (b : Int) (w : World) :
    Calls Tryd.prog 135 #[.int .u8 b] w fun e w' => e = .returned (.bool (spellT b)) ∧ w = w' := by
  go_enter Tryd.func135, Tryd.ntmps135
  go_wp2
  all_goals go_ret
  all_goals refine ⟨ret_bool ?_, rfl⟩
  all_goals unfold spellT
  all_goals (rw [Bool.eq_iff_iff]; simp; try omega)
theorem bytes_at (w : World) (s : ByteArray) (cap : Nat) (e : Nat) (x : Nat × Nat) {j : Nat} (hj : j < s.size) : (w.alloc (.cells (bytesRow s cap) e x)).drew.cell? ⟨w.heap.size, j, none⟩ = some (.int .u8 ((s.data.toList.getD j 0).toNat : Int)) := by
  have h : j < s.data.size := hj
  have := bytesRow_at s cap j h
  have e1 : s.data.toList.getD j 0 = s.data[j] := by
    rw [List.getD_eq_getElem?_getD, Array.getElem?_toList, Array.getElem?_eq_getElem h]; rfl
  rw [e1, ← this]
  exact World.cell?_alloc_mark w _ _ _ _
theorem spell_take (l : List UInt8) (j : Nat) (h : j < l.length) : spellA (l.take (j + 1)) = (spellA (l.take j) && spellT (l.getD j 0).toNat) := by
  unfold spellA
  rw [List.take_add_one, List.all_append]
  simp [List.getD, h]
theorem spell_not (l : List UInt8) (j : Nat) (h : j < l.length) (hs : spellT (l.getD j 0).toNat = false) : spellA l = false := by
  unfold spellA
  rw [List.all_eq_false]
  refine ⟨l[j], List.getElem_mem _, ?_⟩
  simp [List.getD, h] at hs
  simp [hs]
theorem name_any (s : ByteArray) (w : World) :
    Calls Tryd.prog 89 #[.string s] w fun e w' => e = .returned (.bool (nameT s)) ∧ Below w.heap.size w w' := by
  have hcv2 := fun w => run_bytes_of_string (P := Tryd.prog) w 9 31 5 s Tryd.underlying9 Tryd.underlying31 Tryd.underlying5
  by_cases h1 : s.size < 1
  · have e : nameT s = false := by unfold nameT; simp; omega
    rw [e]
    have h1' : decide ((s.size : Int) < 1) = true := by simp; omega
    go_enter Tryd.func89, Tryd.ntmps89
    go_wp2
    go_ret
    exact ⟨rfl, Below.refl _ _⟩
  by_cases h2 : 33 < s.size
  · have e : nameT s = false := by unfold nameT; simp; omega
    rw [e]
    have h1' : decide ((s.size : Int) < 1) = false := by simp; omega
    have h2' : decide (33 < (s.size : Int)) = true := by simp; omega
    go_enter Tryd.func89, Tryd.ntmps89
    go_wp2
    go_ret
    exact ⟨rfl, Below.refl _ _⟩
  have hm : Hid (nameT s = spellA s.data.toList) := Lib.hid (by unfold nameT; rw [show decide (1 ≤ s.size) = true by simp; omega, show decide (s.size ≤ 33) = true by simp; omega]; rfl)
  have hl : Hid (s.data.toList.length = s.size) := Lib.hid (Array.length_toList)
  have h1' : decide ((s.size : Int) < 1) = false := by simp; omega
  have h2' : decide (33 < (s.size : Int)) = false := by simp; omega
  have hat := Lib.hid (fun cap x j (hj : j < s.size) => bytes_at w s cap 5 x hj)
  have hsp := Lib.hid (fun b w => spell_any b w)
  rw [hm.out]
  have hs80 : s.size ≤ 33 := by omega
  have hB0 : Hid (∀ o, Below w.heap.size w (w.alloc o).drew) := Lib.hid (fun o => ((Below.refl _ _).alloc (Nat.le_refl _) o).drew)
  have hsz : Hid (∀ o, w.heap.size < (w.alloc o).drew.heap.size) := Lib.hid (fun o => by simp)
  go_enter Tryd.func89, Tryd.ntmps89
  go_wp2
  generalize grownCap w s.size 0 5 = cap
  have hat1 := Lib.hid (hat.out cap ((bytesRow s cap).size, (bytesRow s cap).size + 1))
  have hB1 := Lib.hid (hB0.out (.cells (bytesRow s cap) 5 ((bytesRow s cap).size, (bytesRow s cap).size + 1)))
  have hz1 := hsz.out (.cells (bytesRow s cap) 5 ((bytesRow s cap).size, (bytesRow s cap).size + 1))
  generalize (w.alloc (.cells (bytesRow s cap) 5 ((bytesRow s cap).size, (bytesRow s cap).size + 1))).drew = w1 at *
  clear hat hB0 hsz hcv2
  go_loopw [16] (fun i wr => ∃ j : Nat, j ≤ s.size ∧ i = .int .i64 j ∧ Hid (Below w1.heap.size w1 wr) ∧ Hid (spellA (s.data.toList.take j) = true)) (fun i _ => s.size - (intOf i).toNat)
  case atStart => exact ⟨0, Nat.zero_le _, rfl, Lib.hid (Below.refl _ _), Lib.hid rfl⟩
  case round =>
    obtain ⟨j, hj, rfl, hw, ht⟩ := hrel
    by_cases hlt : j < s.size
    · have hc := stepc hw.out hz1 (hat1.out j hlt)
      have hn := Lib.hid (spell_not s.data.toList j (by rw [hl.out]; exact hlt))
      have htk := Lib.hid (spell_take s.data.toList j (by rw [hl.out]; exact hlt))
      generalize (s.data.toList.getD j 0).toNat = b at *
      have hsb := Lib.hid (hsp.out b)
      by_cases hb : spellT b = true
      · rw [hb] at hsb
        go_wp2_with (go_at_call 135; (with_reducible refine (hsb.out _).mono ?_); rintro e w2 ⟨rfl, rfl⟩)
        exact ⟨⟨j + 1, by omega, by go_num, hw, Lib.hid (by rw [htk.out, ht.out, hb]; rfl)⟩, by simp [intOf]; omega⟩
      · rw [show spellT b = false by simpa using hb] at hsb
        go_wp2_with (go_at_call 135; (with_reducible refine (hsb.out _).mono ?_); rintro e w2 ⟨rfl, rfl⟩)
        go_ret
        rw [hn.out (by simpa using hb)]
        exact ⟨rfl, nextw hB1.out hw.out⟩
    · obtain rfl : j = s.size := by omega
      rw [← hl.out, List.take_length] at ht
      go_wp2
      go_ret
      rw [ht.out]
      exact ⟨rfl, nextw hB1.out hw.out⟩

theorem at1_any {w : World} {q : Nat} {s : ByteArray} (hq : q < w.heap.size) (hc : w.cell? ⟨q, 0, none⟩ = some (.string s)) (n : ByteArray) (z : Int) :
    Calls Tryd.prog 88 #[.agg #[.string n, .int .i64 z], .pointer (some ⟨q, 0, none⟩)] w fun e w' => e = .returned (.bool (sameS n s)) ∧ Below w.heap.size w w' := by
  have hb : Below w.heap.size w (w.alloc (.cells #[.string n, .int .i64 z] 69)) := (Below.refl _ _).alloc (Nat.le_refl _) _
  have hc2 := stepc hb hq hc
  have hb := Lib.hid hb
  go_enter Tryd.func88, Tryd.ntmps88
  go_wp2
  go_ret
  exact ⟨rfl, hb.out⟩
theorem idx_any {w : World} {a : Option Addr} {n : Nat} {L : List TB} (h : BsR w a n L) (c : Nat) {q : Nat} {s : ByteArray} (hq : q < w.heap.size) (hc : w.cell? ⟨q, 0, none⟩ = some (.string s)) :
    Calls Tryd.prog 87 #[.slice a n c, .func (.func 88) #[] #[.pointer (some ⟨q, 0, none⟩)]] w fun e w' => e = .returned (.int .i64 (firstT (atT L s))) ∧ Below w.heap.size w w' := by
  have hle := h.le
  have H := Lib.hid h
  have HC := Lib.hid hc
  have HN := Lib.hid h.len
  clear h hc
  go_enter Tryd.func87, Tryd.ntmps87
  go_wp2
  go_loopw [8] (fun i wr => ∃ j : Nat, j ≤ n ∧ i = .int .i64 j ∧ Hid (Below w.heap.size w wr) ∧ Hid (∀ i, i < j → sameS (L.getD i tb0).name s = false)) (fun i _ => n - (intOf i).toNat)
  case atStart => exact ⟨0, Nat.zero_le _, rfl, Lib.hid (Below.refl _ _), Lib.hid (fun i hi => by omega)⟩
  case round =>
    obtain ⟨j, hj, rfl, hw, hy⟩ := hrel
    by_cases hlt : j < n
    · have hjL : j < L.length := by rw [HN.out]; exact hlt
      obtain ⟨g, off, rfl, hg, hcell⟩ := H.out.at (by omega)
      obtain ⟨b0, b1⟩ := hcell j hlt
      have c0 := stepc hw.out hg b0
      have c1 := stepc hw.out hg b1
      have hat := Lib.hid (at1_any (Nat.lt_of_lt_of_le hq hw.out.size) (stepc hw.out hq HC.out) (L.getD j tb0).name (L.getD j tb0).width)
      have hjn : (j : Int) < n := by omega
      clear b0 b1 hcell
      by_cases hs : sameS (L.getD j tb0).name s = true
      · have hf := Lib.hid (atT_hit hjL hs (fun i hi => hy.out i hi))
        rw [hs] at hat
        generalize (L.getD j tb0).name = nm at *
        generalize (L.getD j tb0).width = wd at *
        go_wp2_with (go_at_call 88; (with_reducible refine hat.out.mono ?_); rintro e w2 ⟨rfl, hb2⟩)
        go_ret
        rw [hf.out]
        exact ⟨rfl, nextw hw.out hb2⟩
      · have hs' : sameS (L.getD j tb0).name s = false := by simpa using hs
        have hf : Hid (∀ i, i < j + 1 → sameS (L.getD i tb0).name s = false) := Lib.hid (fun i hi => by
          by_cases e : i = j
          · rw [e]; exact hs'
          · exact hy.out i (by omega))
        rw [hs'] at hat
        clear hs hs'
        generalize (L.getD j tb0).name = nm at *
        generalize (L.getD j tb0).width = wd at *
        go_wp2_with (go_at_call 88; (with_reducible refine hat.out.mono ?_); rintro e w2 ⟨rfl, hb2⟩)
        exact ⟨⟨j + 1, by omega, by go_num, Lib.hid (nextw hw.out hb2), hf⟩, by simp [intOf]; omega⟩
    · obtain rfl : j = n := by omega
      go_wp2
      go_ret
      rw [atT_miss (fun i hi => hy.out i (by rw [← HN.out]; exact hi))]
      exact ⟨rfl, hw.out⟩
theorem at_any {w : World} {a : Option Addr} {n : Nat} {L : List TB} (h : BsR w a n L) (c : Nat) (s : ByteArray) :
    Calls Tryd.prog 46 #[.slice a n c, .string s] w fun e w' => e = .returned (.int .i64 (firstT (atT L s))) ∧ Below w.heap.size w w' := by
  have hb : Below w.heap.size w (w.alloc (.cells #[.string s] 9)) := (Below.refl _ _).alloc (Nat.le_refl _) _
  have hi := Lib.hid (idx_any (h.step hb) c (q := w.heap.size) (s := s) (by simp) (by simp [go_sem]))
  have hb := Lib.hid hb
  clear h
  generalize firstT (atT L s) = r at *
  go_enter Tryd.func46, Tryd.ntmps46
  go_wp2_with (go_at_call 87; (with_reducible refine hi.out.mono ?_); rintro e w2 ⟨rfl, hb2⟩)
  go_ret
  exact ⟨rfl, nextw hb.out hb2⟩
end Go.Proofs.YtnhpjacodhdpeaaDoor
