/-
  Names, widths; a netlist stands; literals that are there.
  Where a bus of a name is, where a register of a Q is; Find; rows of literals and of registers copied.
  A new netlist; a bus or a register more, and where they lie then.
-/
import Derived.Test.YtafoohdndlhbnaaGreatDoorFENF
import Derived.Laws.IdiomStrings
import Derived.Shelf.SlMaps.Clone
section
namespace Go.Proofs.YtafoohdndlhbnaaGreatDoor
open Go.RowKit Go.Maps
set_option maxRecDepth 100000

theorem maySpell_any (b : Int) (w : World) :
    Calls Tryz.prog 122 #[.int .u8 b] w fun e w' => e = .returned (.bool (spellB b)) ∧ w = w' := by
  go_enter Tryz.func122, Tryz.ntmps122
  go_wp2
  all_goals go_ret
  all_goals refine ⟨ret_bool ?_, rfl⟩
  all_goals unfold spellB
  all_goals (rw [Bool.eq_iff_iff]; simp; try omega)
theorem mayWide_any (n : Int) (w : World) :
    Calls Tryz.prog 123 #[.int .i64 n] w fun e w' => e = .returned (.bool (wide n)) ∧ w = w' := by
  go_enter Tryz.func123, Tryz.ntmps123
  go_wp2
  all_goals go_ret
  all_goals refine ⟨ret_bool ?_, rfl⟩
  all_goals unfold wide
  all_goals (rw [Bool.eq_iff_iff]; simp; try omega)
theorem bytes_at (w : World) (s : ByteArray) (cap : Nat) (e : Nat) (x : Nat × Nat) {j : Nat} (hj : j < s.size) : (w.alloc (.cells (bytesRow s cap) e x)).drew.cell? ⟨w.heap.size, j, none⟩ = some (.int .u8 ((s.data.toList.getD j 0).toNat : Int)) := by
  have h : j < s.data.size := hj
  have := bytesRow_at s cap j h
  have e1 : s.data.toList.getD j 0 = s.data[j] := by
    rw [List.getD_eq_getElem?_getD, Array.getElem?_toList, Array.getElem?_eq_getElem h]; rfl
  rw [e1, ← this]
  exact World.cell?_alloc_mark w _ _ _ _
def spellAll (l : List UInt8) : Bool := l.all (fun b => spellB b.toNat)
theorem spell_take (l : List UInt8) (j : Nat) (h : j < l.length) : spellAll (l.take (j + 1)) = (spellAll (l.take j) && spellB (l.getD j 0).toNat) := by
  unfold spellAll
  rw [List.take_add_one, List.all_append]
  simp [List.getD, h]
theorem spell_not (l : List UInt8) (j : Nat) (h : j < l.length) (hs : spellB (l.getD j 0).toNat = false) : spellAll l = false := by
  unfold spellAll
  rw [List.all_eq_false]
  refine ⟨l[j], List.getElem_mem _, ?_⟩
  simp [List.getD, h] at hs
  simp [hs]
theorem MayName_any (s : ByteArray) (w : World) :
    Calls Tryz.prog 49 #[.string s] w fun e w' => e = .returned (.bool (mayName s)) ∧ Below w.heap.size w w' := by
  have hcv2 := fun w => run_bytes_of_string (P := Tryz.prog) w 9 29 5 s Tryz.underlying9 Tryz.underlying29 Tryz.underlying5
  by_cases h1 : s.size < 1
  · have e : mayName s = false := by unfold mayName; simp; omega
    rw [e]
    have h1' : decide ((s.size : Int) < 1) = true := by simp; omega
    go_enter Tryz.func49, Tryz.ntmps49
    go_wp2
    go_ret
    exact ⟨rfl, Below.refl _ _⟩
  by_cases h2 : 80 < s.size
  · have e : mayName s = false := by unfold mayName; simp; omega
    rw [e]
    have h1' : decide ((s.size : Int) < 1) = false := by simp; omega
    have h2' : decide (80 < (s.size : Int)) = true := by simp; omega
    go_enter Tryz.func49, Tryz.ntmps49
    go_wp2
    go_ret
    exact ⟨rfl, Below.refl _ _⟩
  have hm : Hid (mayName s = spellAll s.data.toList) := Lib.hid (by unfold mayName; rw [show decide (1 ≤ s.size) = true by simp; omega, show decide (s.size ≤ 80) = true by simp; omega]; rfl)
  have hl : Hid (s.data.toList.length = s.size) := Lib.hid (Array.length_toList)
  have h1' : decide ((s.size : Int) < 1) = false := by simp; omega
  have h2' : decide (80 < (s.size : Int)) = false := by simp; omega
  have hat := Lib.hid (fun cap x j (hj : j < s.size) => bytes_at w s cap 5 x hj)
  have hsp := Lib.hid (fun b w => maySpell_any b w)
  rw [hm.out]
  have hs80 : s.size ≤ 80 := by omega
  have hB0 : Hid (∀ o, Below w.heap.size w (w.alloc o).drew) := Lib.hid (fun o => ((Below.refl _ _).alloc (Nat.le_refl _) o).drew)
  have hsz : Hid (∀ o, w.heap.size < (w.alloc o).drew.heap.size) := Lib.hid (fun o => by simp)
  go_enter Tryz.func49, Tryz.ntmps49
  go_wp2
  generalize grownCap w s.size 0 5 = cap
  have hat1 := Lib.hid (hat.out cap ((bytesRow s cap).size, (bytesRow s cap).size + 1))
  have hB1 := Lib.hid (hB0.out (.cells (bytesRow s cap) 5 ((bytesRow s cap).size, (bytesRow s cap).size + 1)))
  have hz1 := hsz.out (.cells (bytesRow s cap) 5 ((bytesRow s cap).size, (bytesRow s cap).size + 1))
  generalize (w.alloc (.cells (bytesRow s cap) 5 ((bytesRow s cap).size, (bytesRow s cap).size + 1))).drew = w1 at *
  clear hat hB0 hsz hcv2
  go_loopw [16] (fun i wr => ∃ j : Nat, j ≤ s.size ∧ i = .int .i64 j ∧ Hid (Below w1.heap.size w1 wr) ∧ Hid (spellAll (s.data.toList.take j) = true)) (fun i _ => s.size - (intOf i).toNat)
  case atStart => exact ⟨0, Nat.zero_le _, rfl, Lib.hid (Below.refl _ _), Lib.hid rfl⟩
  case round =>
    obtain ⟨j, hj, rfl, hw, ht⟩ := hrel
    by_cases hlt : j < s.size
    · have hc := stepc hw.out hz1 (hat1.out j hlt)
      have hn := Lib.hid (spell_not s.data.toList j (by rw [hl.out]; exact hlt))
      have htk := Lib.hid (spell_take s.data.toList j (by rw [hl.out]; exact hlt))
      generalize (s.data.toList.getD j 0).toNat = b at *
      have hsb := Lib.hid (hsp.out b)
      by_cases hb : spellB b = true
      · rw [hb] at hsb
        go_wp2_with (go_at_call 122; (with_reducible refine (hsb.out _).mono ?_); rintro e w2 ⟨rfl, rfl⟩)
        exact ⟨⟨j + 1, by omega, by go_num, hw, Lib.hid (by rw [htk.out, ht.out, hb]; rfl)⟩, by simp [intOf]; omega⟩
      · rw [show spellB b = false by simpa using hb] at hsb
        go_wp2_with (go_at_call 122; (with_reducible refine (hsb.out _).mono ?_); rintro e w2 ⟨rfl, rfl⟩)
        go_ret
        rw [hn.out (by simpa using hb)]
        exact ⟨rfl, nextw hB1.out hw.out⟩
    · obtain rfl : j = s.size := by omega
      rw [← hl.out, List.take_length] at ht
      go_wp2
      go_ret
      rw [ht.out]
      exact ⟨rfl, nextw hB1.out hw.out⟩

/-- A netlist stands. -/
theorem nstands_any {w : World} {q : NPl} {N : Nt} (h : NetIs w q N) (h0 : 0 < N.g.nodes.length) :
    Calls Tryz.prog 48 #[.pointer (some ⟨q.b, 0, none⟩)] w fun e w' => e = .returned (.bool true) ∧ w = w' := by
  have hn := Lib.hid (nodes_any h.g.lay h0)
  obtain ⟨-, -, -, -, -, -, -, -, -, c0, -⟩ := h.cells
  clear h
  generalize N.g.nodes.length = n at *
  have g0 : decide (0 < (n : Int)) = true := by simp; omega
  go_enter Tryz.func48, Tryz.ntmps48
  go_wp2_with (go_at_call 21; (with_reducible refine hn.out.mono ?_); rintro e w2 ⟨rfl, rfl⟩)
  go_ret
  exact ⟨rfl, rfl⟩
theorem allHas_take (G : Gr) (l : List Int) (j : Nat) (h : j < l.length) : allHas G (l.take (j + 1)) = (allHas G (l.take j) && hasB G (l.getD j 0)) := by
  unfold allHas
  rw [List.take_add_one, List.all_append]
  simp [List.getD, h]
theorem allHas_not (G : Gr) (l : List Int) (j : Nat) (h : j < l.length) (hs : hasB G (l.getD j 0) = false) : allHas G l = false := by
  unfold allHas
  rw [List.all_eq_false]
  refine ⟨l[j], List.getElem_mem _, ?_⟩
  simp [List.getD, h] at hs
  simp [hs]
/-- Are all there? -/
theorem has_any {w : World} {q : NPl} {N : Nt} (h : NetIs w q N) (h0 : 0 < N.g.nodes.length) {a : Option Addr} {n c : Nat} {l : List Int} (hs : Row .u32 w a n l) (hl : ∀ x ∈ l, IsLit x) :
    Calls Tryz.prog 124 #[.pointer (some ⟨q.b, 0, none⟩), .slice a n c] w fun e w' => e = .returned (.bool (allHas N.g l)) ∧ Below w.heap.size w w' := by
  have hn := Lib.hid (nodes_any h.g.lay h0)
  obtain ⟨-, -, -, -, -, -, -, -, -, c0, -⟩ := h.cells
  have HT := Lib.hid (fun j (hj : j < n) => allHas_take N.g l j (by rw [hs.len]; exact hj))
  have HN := Lib.hid (fun j (hj : j < n) => allHas_not N.g l j (by rw [hs.len]; exact hj))
  have HL := Lib.hid (fun j (hj : j < n) => hl (l.getD j 0) (by simp [List.getD, hs.len, hj]))
  have HA : Hid (allHas N.g (l.take n) = allHas N.g l) := Lib.hid (by rw [← hs.len, List.take_length])
  have HZ : Hid (allHas N.g (l.take 0) = true) := Lib.hid rfl
  have HS := Lib.hid hs
  have hle := hs.le
  have HB : Hid (∀ x, hasB N.g x = decide (x / 2 < (N.g.nodes.length : Int))) := Lib.hid (fun x => rfl)
  clear h hs hl
  generalize N.g.nodes.length = k at *
  generalize allHas N.g = P at *
  generalize hasB N.g = B at *
  go_enter Tryz.func124, Tryz.ntmps124
  go_wp2_with (go_at_call 21; (with_reducible refine hn.out.mono ?_); rintro e w2 ⟨rfl, rfl⟩)
  go_loopw [15] (fun i wr => ∃ j : Nat, j ≤ n ∧ i = .int .i64 j ∧ Hid (Below w.heap.size w wr) ∧ Hid (P (l.take j) = true)) (fun i _ => n - (intOf i).toNat)
  case atStart => exact ⟨0, Nat.zero_le _, rfl, Lib.hid (Below.refl _ _), HZ⟩
  case round =>
    obtain ⟨j, hj, rfl, hw, ht⟩ := hrel
    by_cases hlt : j < n
    · obtain ⟨b, off, rfl, hb, hc⟩ := HS.out.at (by omega)
      have hcj := stepc hw.out hb (hc j hlt)
      have htk := Lib.hid (HT.out j hlt)
      have hnt := Lib.hid (HN.out j hlt)
      have hlj := HL.out j hlt
      have hBx := Lib.hid (HB.out (l.getD j 0))
      generalize l.getD j 0 = x at *
      have hnode := Lib.hid (fun w => node_any x hlj w)
      clear hc
      by_cases hx : x / 2 < (k : Int)
      · have g0 : decide ((k : Int) ≤ x / 2) = false := by simp; omega
        go_wp2_with (go_at_call 128; (with_reducible refine (hnode.out _).mono ?_); rintro e w2 ⟨rfl, rfl⟩)
        exact ⟨⟨j + 1, by omega, by go_num, hw, Lib.hid (by rw [htk.out, ht.out, hBx.out]; simp [hx])⟩, by simp [intOf]; omega⟩
      · have g0 : decide ((k : Int) ≤ x / 2) = true := by simp; omega
        go_wp2_with (go_at_call 128; (with_reducible refine (hnode.out _).mono ?_); rintro e w2 ⟨rfl, rfl⟩)
        go_ret
        rw [hnt.out (by rw [hBx.out]; simp; omega)]
        exact ⟨rfl, hw.out⟩
    · obtain rfl : j = n := by omega
      go_wp2
      go_ret
      rw [← HA.out, ht.out]
      exact ⟨rfl, hw.out⟩
end Go.Proofs.YtafoohdndlhbnaaGreatDoor
end

section
namespace Go.Proofs.YtafoohdndlhbnaaGreatDoor
open Go.RowKit Go.Maps
set_option maxRecDepth 100000

theorem at1_any {w : World} {q : Nat} {s : ByteArray} (hq : q < w.heap.size) (hc : w.cell? ⟨q, 0, none⟩ = some (.string s)) (n : ByteArray) (a : Option Addr) (m c : Nat) :
    Calls Tryz.prog 138 #[.agg #[.string n, .slice a m c], .pointer (some ⟨q, 0, none⟩)] w fun e w' => e = .returned (.bool (sameN n s)) ∧ Below w.heap.size w w' := by
  have hb : Below w.heap.size w (w.alloc (.cells #[.string n, .slice a m c] 71)) := (Below.refl _ _).alloc (Nat.le_refl _) _
  have hc2 := stepc hb hq hc
  have hb := Lib.hid hb
  go_enter Tryz.func138, Tryz.ntmps138
  go_wp2
  go_ret
  exact ⟨rfl, hb.out⟩
theorem atB_hit {L : List Bus} {s : ByteArray} {j : Nat} (hj : j < L.length) (h : sameN L[j].name s = true) (hn : ∀ i, (hi : i < j) → sameN (L[i]'(by omega)).name s = false) : atB L s = some j := by
  unfold atB
  rw [List.findIdx?_eq_some_iff_getElem]
  exact ⟨hj, h, fun i hi => by simp [hn i hi]⟩
theorem atB_miss {L : List Bus} {s : ByteArray} (hn : ∀ i, (hi : i < L.length) → sameN L[i].name s = false) : atB L s = none := by
  unfold atB
  rw [List.findIdx?_eq_none_iff]
  intro b hb
  obtain ⟨i, hi, rfl⟩ := List.getElem_of_mem hb
  exact hn i hi
/-- The first j have another name. -/
def NotYet (L : List Bus) (s : ByteArray) (j : Nat) : Prop := ∀ i, (hi : i < L.length) → i < j → sameN L[i].name s = false
theorem NotYet.next {L : List Bus} {s : ByteArray} {j : Nat} (h : NotYet L s j) (hj : j < L.length) (hs : sameN L[j].name s = false) : NotYet L s (j + 1) := by
  intro i hi hij
  by_cases e : i = j
  · subst e; exact hs
  · exact h i hi (by omega)
theorem idxBus_any {w : World} {a : Option Addr} {n c : Nat} {L : List Bus} (h : BusRow w (.slice a n c) L) (hn : n = L.length) {q : Nat} {s : ByteArray} (hq : q < w.heap.size) (hc : w.cell? ⟨q, 0, none⟩ = some (.string s)) :
    Calls Tryz.prog 137 #[.slice a n c, .func (.func 138) #[] #[.pointer (some ⟨q, 0, none⟩)]] w fun e w' => e = .returned (.int .i64 (firstV (atB L s))) ∧ Below w.heap.size w w' := by
  have hle : n ≤ 9223372036854775807 := by obtain ⟨K, hK⟩ := h; rw [hn]; exact own_maxLen hK.own
  have H := Lib.hid h
  have HC := Lib.hid hc
  have HN := Lib.hid hn
  clear h hc hn
  go_enter Tryz.func137, Tryz.ntmps137
  go_wp2
  go_loopw [8] (fun i wr => ∃ j : Nat, j ≤ n ∧ i = .int .i64 j ∧ Hid (Below w.heap.size w wr) ∧ Hid (NotYet L s j)) (fun i _ => n - (intOf i).toNat)
  case atStart => exact ⟨0, Nat.zero_le _, rfl, Lib.hid (Below.refl _ _), Lib.hid (fun i _ hi => by omega)⟩
  case round =>
    obtain ⟨j, hj, rfl, hw, hy⟩ := hrel
    by_cases hlt : j < n
    · have hjL : j < L.length := by rw [← HN.out]; exact hlt
      obtain ⟨g, la, lc, rfl, hg, b0, b1, -⟩ := H.out.at hjL
      have c0 := stepc hw.out hg b0
      have c1 := stepc hw.out hg b1
      have hat := Lib.hid (at1_any (Nat.lt_of_lt_of_le hq hw.out.size) (stepc hw.out hq HC.out) L[j].name la L[j].lits.length lc)
      clear b0 b1
      by_cases hs : sameN L[j].name s = true
      · have hf := Lib.hid (atB_hit hjL hs (fun i hi => hy.out i (by omega) hi))
        rw [hs] at hat
        generalize L[j].name = nm at *
        generalize L[j].lits.length = ll at *
        go_wp2_with (go_at_call 138; (with_reducible refine hat.out.mono ?_); rintro e w2 ⟨rfl, hb2⟩)
        go_ret
        rw [hf.out]
        exact ⟨rfl, nextw hw.out hb2⟩
      · have hs' : sameN L[j].name s = false := by simpa using hs
        have hf := Lib.hid (hy.out.next hjL hs')
        rw [hs'] at hat
        generalize L[j].name = nm at *
        generalize L[j].lits.length = ll at *
        go_wp2_with (go_at_call 138; (with_reducible refine hat.out.mono ?_); rintro e w2 ⟨rfl, hb2⟩)
        exact ⟨⟨j + 1, by omega, by go_num, Lib.hid (nextw hw.out hb2), hf⟩, by simp [intOf]; omega⟩
    · obtain rfl : j = n := by omega
      go_wp2
      go_ret
      rw [atB_miss (fun i hi => hy.out i hi (by rw [HN.out]; exact hi))]
      exact ⟨rfl, hw.out⟩
theorem at_any {w : World} {a : Option Addr} {n c : Nat} {L : List Bus} (h : BusRow w (.slice a n c) L) (hn : n = L.length) (s : ByteArray) :
    Calls Tryz.prog 56 #[.slice a n c, .string s] w fun e w' => e = .returned (.int .i64 (firstV (atB L s))) ∧ Below w.heap.size w w' := by
  have hb : Below w.heap.size w (w.alloc (.cells #[.string s] 9)) := (Below.refl _ _).alloc (Nat.le_refl _) _
  have hi := Lib.hid (idxBus_any (h.below hb) hn (q := w.heap.size) (s := s) (by simp) (by simp [go_sem]))
  have hb := Lib.hid hb
  clear h hn
  generalize firstV (atB L s) = r at *
  go_enter Tryz.func56, Tryz.ntmps56
  go_wp2_with (go_at_call 137; (with_reducible refine hi.out.mono ?_); rintro e w2 ⟨rfl, hb2⟩)
  go_ret
  exact ⟨rfl, nextw hb.out hb2⟩

/-! ### registers -/
theorem reg1_any {w : World} {q : Nat} {x : Int} (hq : q < w.heap.size) (hc : w.cell? ⟨q, 0, none⟩ = some (.int .u32 x)) (r : Rg) :
    Calls Tryz.prog 152 #[.agg #[.int .u32 r.q, .int .u32 r.d, .int .u32 r.en, .bool r.init], .pointer (some ⟨q, 0, none⟩)] w fun e w' => e = .returned (.bool (r.q == x)) ∧ Below w.heap.size w w' := by
  have hb : Below w.heap.size w (w.alloc (.cells #[.int .u32 r.q, .int .u32 r.d, .int .u32 r.en, .bool r.init] 68)) := (Below.refl _ _).alloc (Nat.le_refl _) _
  have hc2 := stepc hb hq hc
  have hb := Lib.hid hb
  go_enter Tryz.func152, Tryz.ntmps152
  go_wp2
  go_ret
  exact ⟨rfl, hb.out⟩
def NoReg (R : List Rg) (x : Int) (j : Nat) : Prop := ∀ i, (hi : i < R.length) → i < j → (R[i].q == x) = false
theorem NoReg.next {R : List Rg} {x : Int} {j : Nat} (h : NoReg R x j) (hj : j < R.length) (hs : (R[j].q == x) = false) : NoReg R x (j + 1) := by
  intro i hi hij
  by_cases e : i = j
  · subst e; exact hs
  · exact h i hi (by omega)
theorem regAt_hit {R : List Rg} {x : Int} {j : Nat} (hj : j < R.length) (h : (R[j].q == x) = true) (hn : NoReg R x j) : regAt R x = some j := by
  unfold regAt
  rw [List.findIdx?_eq_some_iff_getElem]
  exact ⟨hj, h, fun i hi => by simp [hn i (by omega) hi]⟩
theorem regAt_miss {R : List Rg} {x : Int} (hn : NoReg R x R.length) : regAt R x = none := by
  unfold regAt
  rw [List.findIdx?_eq_none_iff]
  intro b hb
  obtain ⟨i, hi, rfl⟩ := List.getElem_of_mem hb
  exact hn i hi hi
theorem idxReg_any {w : World} {a : Option Addr} {n c : Nat} {R : List Rg} (h : RegRow w (.slice a n c) R) (hn : n = R.length) {q : Nat} {x : Int} (hq : q < w.heap.size) (hc : w.cell? ⟨q, 0, none⟩ = some (.int .u32 x)) :
    Calls Tryz.prog 151 #[.slice a n c, .func (.func 152) #[] #[.pointer (some ⟨q, 0, none⟩)]] w fun e w' => e = .returned (.int .i64 (firstV (regAt R x))) ∧ Below w.heap.size w w' := by
  have hle : n ≤ 9223372036854775807 := by rw [hn]; exact own_maxLen h
  have H := Lib.hid h
  have HC := Lib.hid hc
  have HN := Lib.hid hn
  clear h hc hn
  go_enter Tryz.func151, Tryz.ntmps151
  go_wp2
  go_loopw [8] (fun i wr => ∃ j : Nat, j ≤ n ∧ i = .int .i64 j ∧ Hid (Below w.heap.size w wr) ∧ Hid (NoReg R x j)) (fun i _ => n - (intOf i).toNat)
  case atStart => exact ⟨0, Nat.zero_le _, rfl, Lib.hid (Below.refl _ _), Lib.hid (fun i _ hi => by omega)⟩
  case round =>
    obtain ⟨j, hj, rfl, hw, hy⟩ := hrel
    by_cases hlt : j < n
    · have hjL : j < R.length := by rw [← HN.out]; exact hlt
      obtain ⟨g, rfl, hg, b0, b1, b2, b3⟩ := H.out.at hjL
      have c0 := stepc hw.out hg b0
      have c1 := stepc hw.out hg b1
      have c2 := stepc hw.out hg b2
      have c3 := stepc hw.out hg b3
      have hat := Lib.hid (reg1_any (Nat.lt_of_lt_of_le hq hw.out.size) (stepc hw.out hq HC.out) R[j])
      clear b0 b1 b2 b3
      by_cases hs : (R[j].q == x) = true
      · have hf := Lib.hid (regAt_hit hjL hs hy.out)
        rw [hs] at hat
        clear hs
        generalize R[j] = r at *
        obtain ⟨rq, rd, re, ri⟩ := r
        go_wp2_with (go_at_call 152; (with_reducible refine hat.out.mono ?_); rintro e w2 ⟨rfl, hb2⟩)
        go_ret
        rw [hf.out]
        exact ⟨rfl, nextw hw.out hb2⟩
      · have hs' : (R[j].q == x) = false := by simpa using hs
        have hf := Lib.hid (hy.out.next hjL hs')
        rw [hs'] at hat
        clear hs hs'
        generalize R[j] = r at *
        obtain ⟨rq, rd, re, ri⟩ := r
        go_wp2_with (go_at_call 152; (with_reducible refine hat.out.mono ?_); rintro e w2 ⟨rfl, hb2⟩)
        exact ⟨⟨j + 1, by omega, by go_num, Lib.hid (nextw hw.out hb2), hf⟩, by simp [intOf]; omega⟩
    · obtain rfl : j = n := by omega
      go_wp2
      go_ret
      have hm : NoReg R x R.length := by rw [← HN.out]; exact hy.out
      rw [regAt_miss hm]
      exact ⟨rfl, hw.out⟩

/-! ### copies of rows -/
theorem map_one (l : List Int) : ∀ u ∈ l.map (Value.int .u32), u.oneCell' = true := by
  intro u hu
  obtain ⟨z, -, rfl⟩ := List.mem_map.1 hu
  rfl
/-- A row that a call has made for itself. -/
structure MadeL (w w' : World) (a : Option Addr) (n c : Nat) (l : List Int) : Prop where
  len : l.length = n
  own : w'.ownsRow w.heap.size 66 1 (.slice a n c) n (l.map (Value.int .u32))
  below : Below w.heap.size w w'
theorem MadeL.lrow {w w' : World} {a : Option Addr} {n c : Nat} {l : List Int} (h : MadeL w w' a n c l) : LRow w' a n c l := ⟨h.len, own_base h.own (Nat.zero_le _)⟩
set_option maxHeartbeats 1000000 in
theorem clone_lit {w : World} {a : Option Addr} {n c : Nat} {l : List Int} (hs : Row .u32 w a n l) (hn : n ≤ 200000) :
    Calls Tryz.prog 57 #[.slice a n c] w fun e w' => ∃ (a2 : Option Addr) (c2 : Nat), e = .returned (.slice a2 n c2) ∧ MadeL w w' a2 n c2 l := by
  obtain ⟨i0, hi, hz0, hz1, hz2⟩ := info_parts info_lit
  have hlen := hs.len
  by_cases hnil : n = 0 ∧ a = none
  · obtain ⟨rfl, rfl⟩ := hnil
    have hl : l = [] := List.length_eq_zero_iff.1 hlen
    have heq : ∀ W, (binOp .eql 54 (.slice none 0 c) (.slice none 0 0)).run Tryz.prog W = .ok (.bool true) W := fun W => Lib.run_eql_slice_nil W _ _ _ _ _ _ _ Tryz.underlying54
    clear hs
    subst hl
    go_enter Tryz.func57, Tryz.ntmps57
    go_wp2
    go_ret
    exact ⟨none, 0, rfl, rfl, own_nil _ _ _, Below.refl _ _⟩
  · obtain ⟨ad, rfl⟩ : ∃ ad, a = some ad := by
      rcases hs.2.2 with h0 | ⟨b, off, h, -⟩
      · cases a with
        | none => exact absurd ⟨h0, rfl⟩ hnil
        | some ad => exact ⟨ad, rfl⟩
      · exact ⟨_, h⟩
    have hemp : Hid ((w.alloc (.cells #[] 66)).ownsRow w.heap.size 66 1 (.slice (some ⟨w.heap.size, 0, none⟩) 0 0) 0 []) := Lib.hid ⟨rfl, .inr ⟨w.heap.size, 0, #[], rfl, Nat.le_refl _, Deep.blk_alloc_new _ _, Nat.le_refl _, by decide, rfl, rfl⟩⟩
    have hb0 : Hid (Below w.heap.size w (w.alloc (.cells #[] 66))) := Lib.hid ((Below.refl _ _).alloc (Nat.le_refl _) _)
    have HN : Hid (∀ j u, (l.map (Value.int .u32))[j]? = some u → (w.alloc (.cells #[] 66)).cell? (ad.add j) = some u) := Lib.hid (fun j u hv => by
      have hj := (List.getElem?_eq_some_iff.1 hv).1
      simp only [List.length_map] at hj
      obtain ⟨b, off, h, hbl, hc⟩ := hs.at (by omega)
      cases h
      have e : (l.map (Value.int .u32))[j]? = some (.int .u32 (l.getD j 0)) := by simp [List.getD, hj]
      rw [e] at hv
      rw [← Option.some.inj hv, show (⟨b, off, none⟩ : Addr).add j = ⟨b, off + j, none⟩ by simp [Addr.add]]
      exact stepc hb0.out hbl (hc j (by omega)))
    have H1 := Lib.hid (map_one l)
    have HL : Hid ((l.map (Value.int .u32)).length = n * 1) := Lib.hid (by simp [hlen])
    have hlen := Lib.hid hlen
    clear hs hnil
    have heq : ∀ W, (binOp .eql 54 (.slice (some ad) n c) (.slice none 0 0)).run Tryz.prog W = .ok (.bool false) W := fun W => Lib.run_eql_slice_nil W _ _ _ _ _ _ _ Tryz.underlying54
    go_enter Tryz.func57, Tryz.ntmps57
    go_wp2_with (at_builtin; refine wpList_append_own_at _ rfl _ _ 54 rfl w.heap.size 66 i0 (.int .u32 0) 1 4 Tryz.underlying54 hi hz0 hz1 hz2 rfl (by decide) (.slice (some ⟨w.heap.size, 0, none⟩) 0 0) 0 [] rfl hemp.out ad n c (l.map (Value.int .u32)) rfl HL.out HN.out H1.out (by unfold maxLen; omega) (by omega) (by simp) ?_; intro v' w3 hown' hgrow hnil hloc)
    obtain ⟨a3, c3, rfl⟩ := own_slice hown'
    go_wp2
    go_ret
    rw [List.nil_append, Nat.zero_add] at hown'
    refine ⟨a3, c3, by simp, hlen.out, hown', ?_⟩
    exact hb0.out.grown hgrow (by simp) (fun k hk => by simp [Value.ownBlock] at hk; omega)

theorem info_reg : (Tryz.prog.info? 68).map (fun i => (i.zero, i.size, i.bytes)) = some (some (.agg #[.int .u32 0, .int .u32 0, .int .u32 0, .bool false]), 4, 16) := by kernel_rfl
theorem clone_reg {w : World} {a : Option Addr} {m c : Nat} {R : List Rg} (h : RegRow w (.slice a m c) R) (hmn : m = R.length) (hm : m ≤ 200000) :
    Calls Tryz.prog 61 #[.slice a m c] w fun e w' => ∃ (a2 : Option Addr) (c2 : Nat), e = .returned (.slice a2 m c2) ∧ w'.ownsRow w.heap.size 68 4 (.slice a2 m c2) m (rgCells R) ∧ Below w.heap.size w w' := by
  unfold RegRow at h
  rw [← hmn] at h
  obtain ⟨i0, hi, hz0, hz1, hz2⟩ := info_parts info_reg
  have hlen : (rgCells R).length = m * 4 := h.1
  have hone := rg_one R
  clear hmn
  generalize rgCells R = xs at *
  rcases h.2 with ⟨h0, h1⟩ | ⟨g, cap', cur, hv, -, -⟩
  · simp at h0
    obtain ⟨rfl, rfl, rfl⟩ := h0
    obtain rfl : xs = [] := List.length_eq_zero_iff.1 hlen
    clear h hlen hone h1
    have heq : ∀ W, (binOp .eql 59 (.slice none 0 0) (.slice none 0 0)).run Tryz.prog W = .ok (.bool true) W := fun W => Lib.run_eql_slice_nil W _ _ _ _ _ _ _ Tryz.underlying59
    go_enter Tryz.func61, Tryz.ntmps61
    go_wp2
    go_ret
    exact ⟨none, 0, rfl, ⟨rfl, .inl ⟨rfl, rfl⟩⟩, Below.refl _ _⟩
  · simp at hv
    obtain ⟨rfl, rfl⟩ := hv
    have hlt := own_lt h
    have hcells := h.cells (g := g) rfl
    have HO := Lib.hid (fun j u (h : xs[j]? = some u) => hcells j u h)
    have HL := Lib.hid hlen
    have H1 := Lib.hid hone
    have hemp : Hid ((w.alloc (.cells #[] 68)).ownsRow w.heap.size 68 4 (.slice (some ⟨w.heap.size, 0, none⟩) 0 0) 0 []) := Lib.hid ⟨rfl, .inr ⟨w.heap.size, 0, #[], rfl, Nat.le_refl _, Deep.blk_alloc_new _ _, Nat.le_refl _, by decide, rfl, rfl⟩⟩
    have hb0 : Hid (Below w.heap.size w (w.alloc (.cells #[] 68))) := Lib.hid ((Below.refl _ _).alloc (Nat.le_refl _) _)
    have hadd : ∀ j, (⟨g, 0, none⟩ : Addr).add j = ⟨g, j, none⟩ := fun j => by simp [Addr.add]; omega
    have HN := Lib.hid (fun j u (h : xs[j]? = some u) => (hb0.out.cell (p := (⟨g, 0, none⟩ : Addr).add j) (by rw [hadd]; exact hlt)).trans (HO.out j u h))
    clear h hcells hlen hone hadd
    have heq : ∀ W, (binOp .eql 59 (.slice (some ⟨g, 0, none⟩) m c) (.slice none 0 0)).run Tryz.prog W = .ok (.bool false) W := fun W => Lib.run_eql_slice_nil W _ _ _ _ _ _ _ Tryz.underlying59
    go_enter Tryz.func61, Tryz.ntmps61
    go_wp2_with (at_builtin; refine wpList_append_own_at _ rfl _ _ 59 rfl w.heap.size 68 i0 (.agg #[.int .u32 0, .int .u32 0, .int .u32 0, .bool false]) 4 16 Tryz.underlying59 hi hz0 hz1 hz2 rfl (by decide) (.slice (some ⟨w.heap.size, 0, none⟩) 0 0) 0 [] rfl hemp.out ⟨g, 0, none⟩ m c xs rfl (by rw [HL.out]) HN.out H1.out (by unfold maxLen; omega) (by omega) (by simp) ?_; intro v' w3 hown' hgrow hnil hloc)
    obtain ⟨a3, c3, rfl⟩ := own_slice hown'
    go_wp2
    go_ret
    rw [List.nil_append, Nat.zero_add] at hown'
    refine ⟨a3, c3, by simp, hown', ?_⟩
    exact hb0.out.grown hgrow (by simp) (fun k hk => by simp [Value.ownBlock] at hk; omega)

/-- Find. -/
theorem Find_any {w : World} {a : Option Addr} {n c : Nat} {L : List Bus} (h : BusRow w (.slice a n c) L) (hn : n = L.length) (hw : ∀ b ∈ L, b.lits.length ≤ 64) (s : ByteArray) :
    Calls Tryz.prog 20 #[.slice a n c, .string s] w fun e w' => match atB L s with
      | none => e = .returned (.tuple #[.slice none 0 0, .bool false]) ∧ Below w.heap.size w w'
      | some j => ∃ (b : Bus) (a2 : Option Addr) (c2 : Nat), L[j]? = some b ∧ e = .returned (.tuple #[.slice a2 b.lits.length c2, .bool true]) ∧ LRow w' a2 b.lits.length c2 b.lits ∧ Below w.heap.size w w' := by
  have hat := Lib.hid (at_any h hn s)
  cases e : atB L s with
  | none =>
    rw [e] at hat
    change Hid (Calls _ _ _ _ fun e w' => e = .returned (.int .i64 (-1)) ∧ _) at hat
    clear h hn
    go_enter Tryz.func20, Tryz.ntmps20
    go_wp2_with (go_at_call 56; (with_reducible refine hat.out.mono ?_); rintro e w2 ⟨rfl, hb2⟩)
    go_ret2
    exact ⟨rfl, hb2⟩
  | some j =>
    rw [e] at hat
    change Hid (Calls _ _ _ _ fun e w' => e = .returned (.int .i64 (j : Int)) ∧ _) at hat
    have hj : j < L.length := by
      unfold atB at e
      exact (List.findIdx?_eq_some_iff_getElem.1 e).1
    obtain ⟨g, la, lc, rfl, hg, b0, b1, hr⟩ := h.at hj
    have hcl := Lib.hid (fun w2 (hb : Below w.heap.size w w2) => clone_lit (c := lc) (hr.below hb).row (by have := hw _ (List.getElem_mem hj); omega))
    have hjn : j < n := by omega
    have g0 : decide ((j : Int) < 0) = false := by simp
    simp only []
    have hJ : Hid (L[j]? = some L[j]) := Lib.hid (List.getElem?_eq_getElem hj)
    clear h hr hn
    generalize L[j] = B at *
    generalize hls : B.lits.length = m at *
    have hls := Lib.hid hls
    go_enter Tryz.func20, Tryz.ntmps20
    go_wp2_with (first
      | (go_at_call 56; (with_reducible refine hat.out.mono ?_); rintro e w2 ⟨rfl, hb2⟩; have d1 := stepc hb2 hg b1; have hcl2 := Lib.hid (hcl.out _ hb2); clear b0 b1)
      | (go_at_call 57; (with_reducible refine hcl2.out.mono ?_); rintro e w3 ⟨a2, c2, rfl, hm⟩))
    go_ret2
    exact ⟨B, a2, c2, hJ.out, by rw [hls.out]; rfl, by rw [hls.out]; exact hm.lrow, nextw hb2 hm.below⟩
end Go.Proofs.YtafoohdndlhbnaaGreatDoor
end

section
namespace Go.Proofs.YtafoohdndlhbnaaGreatDoor
open Go.RowKit Go.Maps
set_option maxRecDepth 100000

theorem kept_store {wS wa w1 : World} {row : Option Nat} (hb : Below wS.heap.size wS wa) (hg : wa.grownBy w1 row) (b o : Nat) (v : Value) : Kept (fun k => k = b ∨ row = some k) wS (w1.setCell ⟨b, o, none⟩ v) :=
  ⟨hg.os.trans hb.os, hg.tape.trans hb.tape, hg.output.trans hb.output, by have := hg.size; have := hb.size; simp [World.setCell]; omega, fun k hk hn => by
    have n1 : k ≠ b := fun e => hn (.inl e)
    have n2 : some k ≠ row := fun e => hn (.inr e.symm)
    rw [Below.heap_setCell _ _ _ _ n1, hg.block k (by have := hb.size; omega) n2, hb.block k hk]⟩

/-- The buses that come in are others now. -/
theorem NetIs.setIn {w w' : World} {q : NPl} {N : Nt} (h : NetIs w q N) {v : Value} {L : List Bus} (hk : Kept (fun k => k = q.b ∨ q.iv.ownBlock = some k) w w') (hbox : w'.heap[q.b]? = some (netBox { q with iv := v } N.name)) (hrow : BusRow w' v L)
    (hv : ∀ k, v.ownBlock = some k → q.iv.ownBlock = some k ∨ w.heap.size ≤ k) : NStep q w { q with iv := v } w' { N with ins := L } := by
  have hF : NoLits w (fun k => k = q.b ∨ q.iv.ownBlock = some k) := fun k c fz hp => h.noLits k c fz (by rcases hp with hp | hp; exact .inl hp; exact .inr (.inr (.inl hp)))
  refine ⟨⟨hbox, h.g.beside hk (fun k hp hg => ?_), hrow, own_keptF h.regs hk (fun k e hp => ?_), h.outs.keptF hk (fun k e hp => ?_) hF, fun k hk1 hk2 => ?_⟩, ?_, rfl, rfl, fun k hk => ?_⟩
  · rcases hp with hp | hp
    · exact (h.gFar hg).1 hp
    · exact (h.gFar hg).2.1 hp
  · rcases hp with rfl | hp
    · exact h.bFar.2.1 e
    · exact (h.rFar e).1 hp
  · rcases hp with rfl | hp
    · exact h.bFar.2.2 e
    · exact h.apart k hp e
  · rcases hv k hk1 with h1 | h1
    · exact h.apart k h1 hk2
    · have := h.has_lt (k := k) (.inr (.inr (.inr (.inr hk2)))); omega
  · exact ⟨hk.os, hk.tape, hk.output, hk.size, fun k hlt hn => hk.block k hlt (fun hp => hn (by rcases hp with hp | hp; exact .inl hp; exact .inr (.inr (.inl hp))))⟩
  · rcases hk with hk | hk | hk | hk | hk
    · exact .inl (.inl hk)
    · exact .inl (.inr (.inl hk))
    · rcases hv k hk with h1 | h1
      · exact .inl (.inr (.inr (.inl h1)))
      · exact .inr h1
    · exact .inl (.inr (.inr (.inr (.inl hk))))
    · exact .inl (.inr (.inr (.inr (.inr hk))))
theorem NetIs.setOut {w w' : World} {q : NPl} {N : Nt} (h : NetIs w q N) {v : Value} {L : List Bus} (hk : Kept (fun k => k = q.b ∨ q.ov.ownBlock = some k) w w') (hbox : w'.heap[q.b]? = some (netBox { q with ov := v } N.name)) (hrow : BusRow w' v L)
    (hv : ∀ k, v.ownBlock = some k → q.ov.ownBlock = some k ∨ w.heap.size ≤ k) : NStep q w { q with ov := v } w' { N with outs := L } := by
  have hF : NoLits w (fun k => k = q.b ∨ q.ov.ownBlock = some k) := fun k c fz hp => h.noLits k c fz (by rcases hp with hp | hp; exact .inl hp; exact .inr (.inr (.inr (.inr hp))))
  refine ⟨⟨hbox, h.g.beside hk (fun k hp hg => ?_), h.ins.keptF hk (fun k e hp => ?_) hF, own_keptF h.regs hk (fun k e hp => ?_), hrow, fun k hk1 hk2 => ?_⟩, ?_, rfl, rfl, fun k hk => ?_⟩
  · rcases hp with hp | hp
    · exact (h.gFar hg).1 hp
    · exact (h.gFar hg).2.2.2 hp
  · rcases hp with rfl | hp
    · exact h.bFar.1 e
    · exact h.apart k e hp
  · rcases hp with rfl | hp
    · exact h.bFar.2.1 e
    · exact (h.rFar e).2 hp
  · rcases hv k hk2 with h1 | h1
    · exact h.apart k hk1 h1
    · have := h.has_lt (k := k) (.inr (.inr (.inl hk1))); omega
  · exact ⟨hk.os, hk.tape, hk.output, hk.size, fun k hlt hn => hk.block k hlt (fun hp => hn (by rcases hp with hp | hp; exact .inl hp; exact .inr (.inr (.inr (.inr hp)))))⟩
  · rcases hk with hk | hk | hk | hk | hk
    · exact .inl (.inl hk)
    · exact .inl (.inr (.inl hk))
    · exact .inl (.inr (.inr (.inl hk)))
    · exact .inl (.inr (.inr (.inr (.inl hk))))
    · rcases hv k hk with h1 | h1
      · exact .inl (.inr (.inr (.inr (.inr h1))))
      · exact .inr h1
theorem NetIs.setRegs {w w' : World} {q : NPl} {N : Nt} (h : NetIs w q N) {v : Value} {R : List Rg} (hk : Kept (fun k => k = q.b ∨ q.rv.ownBlock = some k) w w') (hbox : w'.heap[q.b]? = some (netBox { q with rv := v } N.name)) (hrow : RegRow w' v R)
    (hv : ∀ k, v.ownBlock = some k → q.rv.ownBlock = some k ∨ w.heap.size ≤ k) : NStep q w { q with rv := v } w' { N with regs := R } := by
  have hF : NoLits w (fun k => k = q.b ∨ q.rv.ownBlock = some k) := fun k c fz hp => h.noLits k c fz (by rcases hp with hp | hp; exact .inl hp; exact .inr (.inr (.inr (.inl hp))))
  refine ⟨⟨hbox, h.g.beside hk (fun k hp hg => ?_), h.ins.keptF hk (fun k e hp => ?_) hF, hrow, h.outs.keptF hk (fun k e hp => ?_) hF, h.apart⟩, ?_, rfl, rfl, fun k hk => ?_⟩
  · rcases hp with hp | hp
    · exact (h.gFar hg).1 hp
    · exact (h.gFar hg).2.2.1 hp
  · rcases hp with rfl | hp
    · exact h.bFar.1 e
    · exact (h.rFar hp).1 e
  · rcases hp with rfl | hp
    · exact h.bFar.2.2 e
    · exact (h.rFar hp).2 e
  · exact ⟨hk.os, hk.tape, hk.output, hk.size, fun k hlt hn => hk.block k hlt (fun hp => hn (by rcases hp with hp | hp; exact .inl hp; exact .inr (.inr (.inr (.inl hp)))))⟩
  · rcases hk with hk | hk | hk | hk | hk
    · exact .inl (.inl hk)
    · exact .inl (.inr (.inl hk))
    · exact .inl (.inr (.inr (.inl hk)))
    · rcases hv k hk with h1 | h1
      · exact .inl (.inr (.inr (.inr (.inl h1))))
      · exact .inr h1
    · exact .inl (.inr (.inr (.inr (.inr hk))))

/-- A row of buses behind an append, and a store elsewhere. -/
theorem push_row {wS wa w1 : World} {b : Nat} {cs : Array Value} {fz : Nat × Nat} (hbb : wS.heap[b]? = some (.cells cs 61 fz)) (hb : Below wS.heap.size wS wa) {v : Value} {L : List Bus} {K : List BV} (hK : BusAt wS v L K) {s : ByteArray} {la : Option Addr} {m lc : Nat} {l : List Int}
    (hl : LRow wa la m lc l) {g cap : Nat} (hown : w1.ownsRow 0 71 2 (.slice (some ⟨g, 0, none⟩) (L.length + 1) cap) (L.length + 1) (bvCells K ++ [.string s, .slice la m lc]))
    (hg : wa.grownBy w1 v.ownBlock) (hat : v.ownBlock = some g ∨ g = wa.heap.size) (o : Nat) (x : Value) :
    BusRow (w1.setCell ⟨b, o, none⟩ x) (.slice (some ⟨g, 0, none⟩) (L.length + 1) cap) (L ++ [⟨s, l⟩]) ∧ w1.heap[b]? = some (.cells cs 61 fz) := by
  have hlt := (Array.getElem?_eq_some_iff.1 hbb).1
  have hvt : ∀ k, v.ownBlock = some k → ∃ c, wS.heap[k]? = some (.cells c 71 (0, 0)) := fun k hk => own_type hK.own hk
  have hvb : v.ownBlock ≠ some b := fun e => by obtain ⟨c, hc⟩ := hvt b e; rw [hbb] at hc; simp at hc
  have hgb : g ≠ b := by
    rcases hat with h | h
    · rintro rfl; exact hvb h
    · have := hb.size; omega
  have hNS : NoLits wS (fun k => k = b ∨ v.ownBlock = some k) := by
    intro k c fz2 hp hh
    rcases hp with rfl | hp
    · rw [hbb] at hh; simp at hh
    · obtain ⟨c2, hc2⟩ := hvt k hp; rw [hc2] at hh; simp at hh
  have hNa : NoLits wa (fun k => k = b ∨ v.ownBlock = some k) := by
    intro k c fz2 hp hh
    rcases hp with rfl | hp
    · rw [hb.block _ hlt, hbb] at hh; simp at hh
    · obtain ⟨c2, hc2⟩ := hvt k hp; rw [hb.block _ (Array.getElem?_eq_some_iff.1 hc2).1, hc2] at hh; simp at hh
  have kS := kept_store hb hg b o x
  have ka := kept_store (Below.refl wa.heap.size wa) hg b o x
  refine ⟨⟨K ++ [⟨s, la, m, lc⟩], ?_, by simp [hK.len], ?_⟩, ?_⟩
  · rw [bvCells_push]
    have : (w1.setCell ⟨b, o, none⟩ x).ownsRow 0 71 2 (.slice (some ⟨g, 0, none⟩) (L.length + 1) cap) (L.length + 1) (bvCells K ++ [.string s, .slice la m lc]) := by
      refine ⟨hown.1, ?_⟩
      rcases hown.2 with h0 | ⟨g', cap', cur', hv', hg', hh, r⟩
      · exact .inl h0
      · simp at hv'
        obtain ⟨rfl, rfl⟩ := hv'
        exact .inr ⟨_, _, cur', rfl, hg', by rw [Below.heap_setCell _ _ _ _ hgb]; exact hh, r⟩
    simpa using this
  · intro i k bb e1 e2
    by_cases hi : i < K.length
    · rw [List.getElem?_append_left hi] at e1
      rw [List.getElem?_append_left (by rw [← hK.len]; exact hi)] at e2
      obtain ⟨r1, r2⟩ := hK.row i k bb e1 e2
      exact ⟨r1, r2.keptF kS hNS⟩
    · have hlen := hK.len
      have hi2 := (List.getElem?_eq_some_iff.1 e1).1
      simp at hi2
      have e : i = K.length := by omega
      rw [e, List.getElem?_append_right (Nat.le_refl _)] at e1
      rw [e, hlen, List.getElem?_append_right (Nat.le_refl _)] at e2
      simp at e1 e2
      subst e1 e2
      exact ⟨rfl, hl.keptF ka hNa⟩
  · rw [hg.block b (by have := hb.size; omega) (fun e => hvb e.symm), hb.block _ hlt]; exact hbb
theorem new_block {wa : World} {v : Value} {g n cap : Nat} {W : World} (hb : Below W.heap.size W wa) (hat : v.ownBlock = some g ∨ g = wa.heap.size) : ∀ k, (Value.slice (some ⟨g, 0, none⟩) n cap).ownBlock = some k → v.ownBlock = some k ∨ W.heap.size ≤ k := by
  intro k hk
  simp [Value.ownBlock] at hk
  subst hk
  rcases hat with h | h
  · exact .inl h
  · have := hb.size; exact .inr (by omega)
/-- A bus more, that comes in. -/
theorem in_push {wS wa w1 : World} {q : NPl} {N : Nt} (h : NetIs wS q N) (hb : Below wS.heap.size wS wa) {K : List BV} (hK : BusAt wS q.iv N.ins K) {s : ByteArray} {la : Option Addr} {m lc : Nat} {l : List Int}
    (hl : LRow wa la m lc l) {g cap : Nat} (hown : w1.ownsRow 0 71 2 (.slice (some ⟨g, 0, none⟩) (N.ins.length + 1) cap) (N.ins.length + 1) (bvCells K ++ [.string s, .slice la m lc]))
    (hg : wa.grownBy w1 q.iv.ownBlock) (hat : q.iv.ownBlock = some g ∨ g = wa.heap.size) :
    ∃ q', NStep q wS q' (w1.setCell ⟨q.b, 2, none⟩ (.slice (some ⟨g, 0, none⟩) (N.ins.length + 1) cap)) { N with ins := N.ins ++ [⟨s, l⟩] } := by
  obtain ⟨r1, r2⟩ := push_row h.box hb hK hl hown hg hat 2 (.slice (some ⟨g, 0, none⟩) (N.ins.length + 1) cap)
  refine ⟨_, h.setIn (kept_store hb hg q.b 2 _) ?_ r1 (new_block hb hat)⟩
  have := box_set (o := 2) r2 (.slice (some ⟨g, 0, none⟩) (N.ins.length + 1) cap)
  simpa [netBox] using this
/-- A bus more, that goes out. -/
theorem out_push {wS wa w1 : World} {q : NPl} {N : Nt} (h : NetIs wS q N) (hb : Below wS.heap.size wS wa) {K : List BV} (hK : BusAt wS q.ov N.outs K) {s : ByteArray} {la : Option Addr} {m lc : Nat} {l : List Int}
    (hl : LRow wa la m lc l) {g cap : Nat} (hown : w1.ownsRow 0 71 2 (.slice (some ⟨g, 0, none⟩) (N.outs.length + 1) cap) (N.outs.length + 1) (bvCells K ++ [.string s, .slice la m lc]))
    (hg : wa.grownBy w1 q.ov.ownBlock) (hat : q.ov.ownBlock = some g ∨ g = wa.heap.size) :
    ∃ q', NStep q wS q' (w1.setCell ⟨q.b, 4, none⟩ (.slice (some ⟨g, 0, none⟩) (N.outs.length + 1) cap)) { N with outs := N.outs ++ [⟨s, l⟩] } := by
  obtain ⟨r1, r2⟩ := push_row h.box hb hK hl hown hg hat 4 (.slice (some ⟨g, 0, none⟩) (N.outs.length + 1) cap)
  refine ⟨_, h.setOut (kept_store hb hg q.b 4 _) ?_ r1 (new_block hb hat)⟩
  have := box_set (o := 4) r2 (.slice (some ⟨g, 0, none⟩) (N.outs.length + 1) cap)
  simpa [netBox] using this
/-- A register more. -/
theorem reg_push {wS wa w1 : World} {q : NPl} {N : Nt} (h : NetIs wS q N) (hb : Below wS.heap.size wS wa) (r : Rg) {g cap : Nat}
    (hown : w1.ownsRow 0 68 4 (.slice (some ⟨g, 0, none⟩) (N.regs.length + 1) cap) (N.regs.length + 1) (rgCells N.regs ++ [.int .u32 r.q, .int .u32 r.d, .int .u32 r.en, .bool r.init]))
    (hg : wa.grownBy w1 q.rv.ownBlock) (hat : q.rv.ownBlock = some g ∨ g = wa.heap.size) :
    ∃ q', NStep q wS q' (w1.setCell ⟨q.b, 3, none⟩ (.slice (some ⟨g, 0, none⟩) (N.regs.length + 1) cap)) { N with regs := N.regs ++ [r] } := by
  have hgb : g ≠ q.b := by
    rcases hat with h1 | h1
    · rintro rfl; exact h.bFar.2.1 h1
    · have := hb.size; have := h.lt; omega
  have hbox : w1.heap[q.b]? = some (netBox q N.name) := by rw [hg.block q.b (by have := hb.size; have := h.lt; omega) (fun e => h.bFar.2.1 e.symm), hb.block _ h.lt]; exact h.box
  refine ⟨_, h.setRegs (v := .slice (some ⟨g, 0, none⟩) (N.regs.length + 1) cap) (kept_store hb hg q.b 3 _) ?_ ?_ (new_block hb hat)⟩
  · have := box_set (o := 3) hbox (.slice (some ⟨g, 0, none⟩) (N.regs.length + 1) cap)
    simpa [netBox] using this
  · unfold RegRow
    rw [rgCells_push, List.length_append]
    refine ⟨hown.1, ?_⟩
    rcases hown.2 with h0 | ⟨g', cap', cur', hv', hg', hh, r⟩
    · exact .inl h0
    · simp at hv'
      obtain ⟨rfl, rfl⟩ := hv'
      exact .inr ⟨_, _, cur', rfl, hg', by rw [Below.heap_setCell _ _ _ _ hgb]; exact hh, r⟩

/-- A new netlist. -/
theorem New_ok (F H : Bool) {s : ByteArray} (hs : mayName s = true) (w : World) :
    Calls Tryz.prog 38 #[.string s, .agg #[.bool F, .bool H]] w fun e w' => ∃ q : NPl, e = .returned (.tuple #[.pointer (some ⟨q.b, 0, none⟩), .int .i64 0]) ∧ NetIs w' q ⟨newG F H, s, [], [], []⟩ ∧ Below w.heap.size w w' ∧ ∀ k, q.has k → w.heap.size ≤ k := by
  have hb : Below w.heap.size w (w.alloc (.cells #[.bool F, .bool H] 23)) := (Below.refl _ _).alloc (Nat.le_refl _) _
  have hm := Lib.hid (fun w => MayName_any s w)
  rw [hs] at hm
  have hz : (w.alloc (.cells #[.bool F, .bool H] 23)).heap.size = w.heap.size + 1 := by simp
  have c0 : (w.alloc (.cells #[.bool F, .bool H] 23)).cell? ⟨w.heap.size, 0, none⟩ = some (.bool F) := by simp [go_sem]
  have c1 : (w.alloc (.cells #[.bool F, .bool H] 23)).cell? ⟨w.heap.size, 1, none⟩ = some (.bool H) := by simp [go_sem]
  have hnew := Lib.hid (fun w => new_any F H w)
  have hb := Lib.hid hb
  clear hs
  go_enter Tryz.func38, Tryz.ntmps38
  go_wp2_with (first
    | (go_at_call 49; (with_reducible refine (hm.out _).mono ?_); rintro e w2 ⟨rfl, hb2⟩; have d0 := stepc hb2 (by omega) c0; have d1 := stepc hb2 (by omega) c1; clear c0 c1)
    | (go_at_call 99; (with_reducible refine (hnew.out _).mono ?_); rintro e w3 ⟨p, rfl, hI, hb3, hout⟩))
  go_ret2
  have hw := nextw hb.out hb2
  have hb4 : ∀ o, Below w3.heap.size w3 (w3.alloc o) := fun o => (Below.refl _ _).alloc (Nat.le_refl _) _
  refine ⟨⟨w3.heap.size, p, .slice none 0 0, .slice none 0 0, .slice none 0 0⟩, rfl, ⟨Deep.blk_alloc_new _ _, hI.below (hb4 _), BusRow.nil _, ⟨rfl, .inl ⟨rfl, rfl⟩⟩, BusRow.nil _, fun k hk => by simp [Value.ownBlock] at hk⟩, (nextw hw hb3).alloc (nextw hw hb3).size _, ?_⟩
  intro k hk
  have := hw.size
  rcases hk with rfl | hk | hk | hk | hk
  · exact (nextw hw hb3).size
  · have := hout k hk; omega
  · simp [Value.ownBlock] at hk
  · simp [Value.ownBlock] at hk
  · simp [Value.ownBlock] at hk
end Go.Proofs.YtafoohdndlhbnaaGreatDoor
end
