/-
  Names, widths; a netlist stands; literals that are there.
  Where a bus of a name is, where a register of a Q is; Find; rows of literals and of registers copied.
-/
import Derived.Test.YtnhpjacodhdpeaaDoorFEKK
import Derived.Laws.IdiomStrings
import Derived.Shelf.SlMaps.Clone
section
namespace Go.Proofs.YtnhpjacodhdpeaaDoor
open Go.RowKit Go.Maps
set_option maxRecDepth 100000

theorem maySpell_any (b : Int) (w : World) :
    Calls Tryd.prog 121 #[.int .u8 b] w fun e w' => e = .returned (.bool (spellB b)) ∧ w = w' := by
  go_enter Tryd.func121, Tryd.ntmps121
  go_wp2
  all_goals go_ret
  all_goals refine ⟨ret_bool ?_, rfl⟩
  all_goals unfold spellB
  all_goals (rw [Bool.eq_iff_iff]; simp; try omega)
theorem mayWide_any (n : Int) (w : World) :
    Calls Tryd.prog 123 #[.int .i64 n] w fun e w' => e = .returned (.bool (wide n)) ∧ w = w' := by
  go_enter Tryd.func123, Tryd.ntmps123
  go_wp2
  all_goals go_ret
  all_goals refine ⟨ret_bool ?_, rfl⟩
  all_goals unfold wide
  all_goals (rw [Bool.eq_iff_iff]; simp; try omega)
theorem bytes_at (w : World) (s : ByteArray) (cap : Nat) (e : Nat) (x : Nat × Nat) {j : Nat} (hj : j < s.size) : (w.alloc (.cells (bytesRow s cap) e x)).drew.cell? ⟨w.heap.size, j, none⟩ = some (.int .u8 ((s.data.toList.getD j 0).toNat : Int)) := by
  have h : j < s.data.size := hj
  have := bytesRow_at s cap j h
  have e1 : s.data.toList.getD j 0 = s.data[j] := by
    rw [List.getD_eq_getElem?_getD, Array.getElem?_toList, Array.getElem?_eq_getElem h]; rfl
  rw [e1, ← this]
  exact World.cell?_alloc_mark w _ _ _ _
def spellAll (l : List UInt8) : Bool := l.all (fun b => spellB b.toNat)
theorem spell_take (l : List UInt8) (j : Nat) (h : j < l.length) : spellAll (l.take (j + 1)) = (spellAll (l.take j) && spellB (l.getD j 0).toNat) := by
  unfold spellAll
  rw [List.take_add_one, List.all_append]
  simp [List.getD, h]
theorem spell_not (l : List UInt8) (j : Nat) (h : j < l.length) (hs : spellB (l.getD j 0).toNat = false) : spellAll l = false := by
  unfold spellAll
  rw [List.all_eq_false]
  refine ⟨l[j], List.getElem_mem _, ?_⟩
  simp [List.getD, h] at hs
  simp [hs]
theorem MayName_any (s : ByteArray) (w : World) :
    Calls Tryd.prog 75 #[.string s] w fun e w' => e = .returned (.bool (mayName s)) ∧ Below w.heap.size w w' := by
  have hcv2 := fun w => run_bytes_of_string (P := Tryd.prog) w 9 31 5 s Tryd.underlying9 Tryd.underlying31 Tryd.underlying5
  by_cases h1 : s.size < 1
  · have e : mayName s = false := by unfold mayName; simp; omega
    rw [e]
    have h1' : decide ((s.size : Int) < 1) = true := by simp; omega
    go_enter Tryd.func75, Tryd.ntmps75
    go_wp2
    go_ret
    exact ⟨rfl, Below.refl _ _⟩
  by_cases h2 : 80 < s.size
  · have e : mayName s = false := by unfold mayName; simp; omega
    rw [e]
    have h1' : decide ((s.size : Int) < 1) = false := by simp; omega
    have h2' : decide (80 < (s.size : Int)) = true := by simp; omega
    go_enter Tryd.func75, Tryd.ntmps75
    go_wp2
    go_ret
    exact ⟨rfl, Below.refl _ _⟩
  have hm : Hid (mayName s = spellAll s.data.toList) := Lib.hid (by unfold mayName; rw [show decide (1 ≤ s.size) = true by simp; omega, show decide (s.size ≤ 80) = true by simp; omega]; rfl)
  have hl : Hid (s.data.toList.length = s.size) := Lib.hid (Array.length_toList)
  have h1' : decide ((s.size : Int) < 1) = false := by simp; omega
  have h2' : decide (80 < (s.size : Int)) = false := by simp; omega
  have hat := Lib.hid (fun cap x j (hj : j < s.size) => bytes_at w s cap 5 x hj)
  have hsp := Lib.hid (fun b w => maySpell_any b w)
  rw [hm.out]
  have hs80 : s.size ≤ 80 := by omega
  have hB0 : Hid (∀ o, Below w.heap.size w (w.alloc o).drew) := Lib.hid (fun o => ((Below.refl _ _).alloc (Nat.le_refl _) o).drew)
  have hsz : Hid (∀ o, w.heap.size < (w.alloc o).drew.heap.size) := Lib.hid (fun o => by simp)
  go_enter Tryd.func75, Tryd.ntmps75
  go_wp2
  generalize grownCap w s.size 0 5 = cap
  have hat1 := Lib.hid (hat.out cap ((bytesRow s cap).size, (bytesRow s cap).size + 1))
  have hB1 := Lib.hid (hB0.out (.cells (bytesRow s cap) 5 ((bytesRow s cap).size, (bytesRow s cap).size + 1)))
  have hz1 := hsz.out (.cells (bytesRow s cap) 5 ((bytesRow s cap).size, (bytesRow s cap).size + 1))
  generalize (w.alloc (.cells (bytesRow s cap) 5 ((bytesRow s cap).size, (bytesRow s cap).size + 1))).drew = w1 at *
  clear hat hB0 hsz hcv2
  go_loopw [16] (fun i wr => ∃ j : Nat, j ≤ s.size ∧ i = .int .i64 j ∧ Hid (Below w1.heap.size w1 wr) ∧ Hid (spellAll (s.data.toList.take j) = true)) (fun i _ => s.size - (intOf i).toNat)
  case atStart => exact ⟨0, Nat.zero_le _, rfl, Lib.hid (Below.refl _ _), Lib.hid rfl⟩
  case round =>
    obtain ⟨j, hj, rfl, hw, ht⟩ := hrel
    by_cases hlt : j < s.size
    · have hc := stepc hw.out hz1 (hat1.out j hlt)
      have hn := Lib.hid (spell_not s.data.toList j (by rw [hl.out]; exact hlt))
      have htk := Lib.hid (spell_take s.data.toList j (by rw [hl.out]; exact hlt))
      generalize (s.data.toList.getD j 0).toNat = b at *
      have hsb := Lib.hid (hsp.out b)
      by_cases hb : spellB b = true
      · rw [hb] at hsb
        go_wp2_with (go_at_call 121; (with_reducible refine (hsb.out _).mono ?_); rintro e w2 ⟨rfl, rfl⟩)
        exact ⟨⟨j + 1, by omega, by go_num, hw, Lib.hid (by rw [htk.out, ht.out, hb]; rfl)⟩, by simp [intOf]; omega⟩
      · rw [show spellB b = false by simpa using hb] at hsb
        go_wp2_with (go_at_call 121; (with_reducible refine (hsb.out _).mono ?_); rintro e w2 ⟨rfl, rfl⟩)
        go_ret
        rw [hn.out (by simpa using hb)]
        exact ⟨rfl, nextw hB1.out hw.out⟩
    · obtain rfl : j = s.size := by omega
      rw [← hl.out, List.take_length] at ht
      go_wp2
      go_ret
      rw [ht.out]
      exact ⟨rfl, nextw hB1.out hw.out⟩

/-- A netlist stands. -/
theorem nstands_any {w : World} {q : NPl} {N : Nt} (h : NetIs w q N) (h0 : 0 < N.g.nodes.length) :
    Calls Tryd.prog 108 #[.pointer (some ⟨q.b, 0, none⟩)] w fun e w' => e = .returned (.bool true) ∧ w = w' := by
  have hn := Lib.hid (nodes_any h.g.lay h0)
  obtain ⟨-, -, -, -, -, -, -, -, -, c0, -⟩ := h.cells
  clear h
  generalize N.g.nodes.length = n at *
  have g0 : decide (0 < (n : Int)) = true := by simp; omega
  go_enter Tryd.func108, Tryd.ntmps108
  go_wp2_with (go_at_call 116; (with_reducible refine hn.out.mono ?_); rintro e w2 ⟨rfl, rfl⟩)
  go_ret
  exact ⟨rfl, rfl⟩
theorem allHas_take (G : Gr) (l : List Int) (j : Nat) (h : j < l.length) : allHas G (l.take (j + 1)) = (allHas G (l.take j) && hasB G (l.getD j 0)) := by
  unfold allHas
  rw [List.take_add_one, List.all_append]
  simp [List.getD, h]
theorem allHas_not (G : Gr) (l : List Int) (j : Nat) (h : j < l.length) (hs : hasB G (l.getD j 0) = false) : allHas G l = false := by
  unfold allHas
  rw [List.all_eq_false]
  refine ⟨l[j], List.getElem_mem _, ?_⟩
  simp [List.getD, h] at hs
  simp [hs]
/-- Are all there? -/
theorem has_any {w : World} {q : NPl} {N : Nt} (h : NetIs w q N) (h0 : 0 < N.g.nodes.length) {a : Option Addr} {n c : Nat} {l : List Int} (hs : Row .u32 w a n l) (hl : ∀ x ∈ l, IsLit x) :
    Calls Tryd.prog 130 #[.pointer (some ⟨q.b, 0, none⟩), .slice a n c] w fun e w' => e = .returned (.bool (allHas N.g l)) ∧ Below w.heap.size w w' := by
  have hn := Lib.hid (nodes_any h.g.lay h0)
  obtain ⟨-, -, -, -, -, -, -, -, -, c0, -⟩ := h.cells
  have HT := Lib.hid (fun j (hj : j < n) => allHas_take N.g l j (by rw [hs.len]; exact hj))
  have HN := Lib.hid (fun j (hj : j < n) => allHas_not N.g l j (by rw [hs.len]; exact hj))
  have HL := Lib.hid (fun j (hj : j < n) => hl (l.getD j 0) (by simp [List.getD, hs.len, hj]))
  have HA : Hid (allHas N.g (l.take n) = allHas N.g l) := Lib.hid (by rw [← hs.len, List.take_length])
  have HZ : Hid (allHas N.g (l.take 0) = true) := Lib.hid rfl
  have HS := Lib.hid hs
  have hle := hs.le
  have HB : Hid (∀ x, hasB N.g x = decide (x / 2 < (N.g.nodes.length : Int))) := Lib.hid (fun x => rfl)
  clear h hs hl
  generalize N.g.nodes.length = k at *
  generalize allHas N.g = P at *
  generalize hasB N.g = B at *
  go_enter Tryd.func130, Tryd.ntmps130
  go_wp2_with (go_at_call 116; (with_reducible refine hn.out.mono ?_); rintro e w2 ⟨rfl, rfl⟩)
  go_loopw [15] (fun i wr => ∃ j : Nat, j ≤ n ∧ i = .int .i64 j ∧ Hid (Below w.heap.size w wr) ∧ Hid (P (l.take j) = true)) (fun i _ => n - (intOf i).toNat)
  case atStart => exact ⟨0, Nat.zero_le _, rfl, Lib.hid (Below.refl _ _), HZ⟩
  case round =>
    obtain ⟨j, hj, rfl, hw, ht⟩ := hrel
    by_cases hlt : j < n
    · obtain ⟨b, off, rfl, hb, hc⟩ := HS.out.at (by omega)
      have hcj := stepc hw.out hb (hc j hlt)
      have htk := Lib.hid (HT.out j hlt)
      have hnt := Lib.hid (HN.out j hlt)
      have hlj := HL.out j hlt
      have hBx := Lib.hid (HB.out (l.getD j 0))
      generalize l.getD j 0 = x at *
      have hnode := Lib.hid (fun w => node_any x hlj w)
      clear hc
      by_cases hx : x / 2 < (k : Int)
      · have g0 : decide ((k : Int) ≤ x / 2) = false := by simp; omega
        go_wp2_with (go_at_call 79; (with_reducible refine (hnode.out _).mono ?_); rintro e w2 ⟨rfl, rfl⟩)
        exact ⟨⟨j + 1, by omega, by go_num, hw, Lib.hid (by rw [htk.out, ht.out, hBx.out]; simp [hx])⟩, by simp [intOf]; omega⟩
      · have g0 : decide ((k : Int) ≤ x / 2) = true := by simp; omega
        go_wp2_with (go_at_call 79; (with_reducible refine (hnode.out _).mono ?_); rintro e w2 ⟨rfl, rfl⟩)
        go_ret
        rw [hnt.out (by rw [hBx.out]; simp; omega)]
        exact ⟨rfl, hw.out⟩
    · obtain rfl : j = n := by omega
      go_wp2
      go_ret
      rw [← HA.out, ht.out]
      exact ⟨rfl, hw.out⟩
end Go.Proofs.YtnhpjacodhdpeaaDoor
end

section
namespace Go.Proofs.YtnhpjacodhdpeaaDoor
open Go.RowKit Go.Maps
set_option maxRecDepth 100000

theorem at1_any {w : World} {q : Nat} {s : ByteArray} (hq : q < w.heap.size) (hc : w.cell? ⟨q, 0, none⟩ = some (.string s)) (n : ByteArray) (a : Option Addr) (m c : Nat) :
    Calls Tryd.prog 155 #[.agg #[.string n, .slice a m c], .pointer (some ⟨q, 0, none⟩)] w fun e w' => e = .returned (.bool (sameN n s)) ∧ Below w.heap.size w w' := by
  have hb : Below w.heap.size w (w.alloc (.cells #[.string n, .slice a m c] 184)) := (Below.refl _ _).alloc (Nat.le_refl _) _
  have hc2 := stepc hb hq hc
  have hb := Lib.hid hb
  go_enter Tryd.func155, Tryd.ntmps155
  go_wp2
  go_ret
  exact ⟨rfl, hb.out⟩
theorem atB_hit {L : List Bus} {s : ByteArray} {j : Nat} (hj : j < L.length) (h : sameN L[j].name s = true) (hn : ∀ i, (hi : i < j) → sameN (L[i]'(by omega)).name s = false) : atB L s = some j := by
  unfold atB
  rw [List.findIdx?_eq_some_iff_getElem]
  exact ⟨hj, h, fun i hi => by simp [hn i hi]⟩
theorem atB_miss {L : List Bus} {s : ByteArray} (hn : ∀ i, (hi : i < L.length) → sameN L[i].name s = false) : atB L s = none := by
  unfold atB
  rw [List.findIdx?_eq_none_iff]
  intro b hb
  obtain ⟨i, hi, rfl⟩ := List.getElem_of_mem hb
  exact hn i hi
/-- The first j have another name. -/
def NotYet (L : List Bus) (s : ByteArray) (j : Nat) : Prop := ∀ i, (hi : i < L.length) → i < j → sameN L[i].name s = false
theorem NotYet.next {L : List Bus} {s : ByteArray} {j : Nat} (h : NotYet L s j) (hj : j < L.length) (hs : sameN L[j].name s = false) : NotYet L s (j + 1) := by
  intro i hi hij
  by_cases e : i = j
  · subst e; exact hs
  · exact h i hi (by omega)
theorem idxBus_any {w : World} {a : Option Addr} {n c : Nat} {L : List Bus} (h : BusRow w (.slice a n c) L) (hn : n = L.length) {q : Nat} {s : ByteArray} (hq : q < w.heap.size) (hc : w.cell? ⟨q, 0, none⟩ = some (.string s)) :
    Calls Tryd.prog 154 #[.slice a n c, .func (.func 155) #[] #[.pointer (some ⟨q, 0, none⟩)]] w fun e w' => e = .returned (.int .i64 (firstV (atB L s))) ∧ Below w.heap.size w w' := by
  have hle : n ≤ 9223372036854775807 := by obtain ⟨K, hK⟩ := h; rw [hn]; exact own_maxLen hK.own
  have H := Lib.hid h
  have HC := Lib.hid hc
  have HN := Lib.hid hn
  clear h hc hn
  go_enter Tryd.func154, Tryd.ntmps154
  go_wp2
  go_loopw [8] (fun i wr => ∃ j : Nat, j ≤ n ∧ i = .int .i64 j ∧ Hid (Below w.heap.size w wr) ∧ Hid (NotYet L s j)) (fun i _ => n - (intOf i).toNat)
  case atStart => exact ⟨0, Nat.zero_le _, rfl, Lib.hid (Below.refl _ _), Lib.hid (fun i _ hi => by omega)⟩
  case round =>
    obtain ⟨j, hj, rfl, hw, hy⟩ := hrel
    by_cases hlt : j < n
    · have hjL : j < L.length := by rw [← HN.out]; exact hlt
      obtain ⟨g, la, lc, rfl, hg, b0, b1, -⟩ := H.out.at hjL
      have c0 := stepc hw.out hg b0
      have c1 := stepc hw.out hg b1
      have hat := Lib.hid (at1_any (Nat.lt_of_lt_of_le hq hw.out.size) (stepc hw.out hq HC.out) L[j].name la L[j].lits.length lc)
      clear b0 b1
      by_cases hs : sameN L[j].name s = true
      · have hf := Lib.hid (atB_hit hjL hs (fun i hi => hy.out i (by omega) hi))
        rw [hs] at hat
        generalize L[j].name = nm at *
        generalize L[j].lits.length = ll at *
        go_wp2_with (go_at_call 155; (with_reducible refine hat.out.mono ?_); rintro e w2 ⟨rfl, hb2⟩)
        go_ret
        rw [hf.out]
        exact ⟨rfl, nextw hw.out hb2⟩
      · have hs' : sameN L[j].name s = false := by simpa using hs
        have hf := Lib.hid (hy.out.next hjL hs')
        rw [hs'] at hat
        generalize L[j].name = nm at *
        generalize L[j].lits.length = ll at *
        go_wp2_with (go_at_call 155; (with_reducible refine hat.out.mono ?_); rintro e w2 ⟨rfl, hb2⟩)
        exact ⟨⟨j + 1, by omega, by go_num, Lib.hid (nextw hw.out hb2), hf⟩, by simp [intOf]; omega⟩
    · obtain rfl : j = n := by omega
      go_wp2
      go_ret
      rw [atB_miss (fun i hi => hy.out i hi (by rw [HN.out]; exact hi))]
      exact ⟨rfl, hw.out⟩
theorem at_any {w : World} {a : Option Addr} {n c : Nat} {L : List Bus} (h : BusRow w (.slice a n c) L) (hn : n = L.length) (s : ByteArray) :
    Calls Tryd.prog 124 #[.slice a n c, .string s] w fun e w' => e = .returned (.int .i64 (firstV (atB L s))) ∧ Below w.heap.size w w' := by
  have hb : Below w.heap.size w (w.alloc (.cells #[.string s] 9)) := (Below.refl _ _).alloc (Nat.le_refl _) _
  have hi := Lib.hid (idxBus_any (h.below hb) hn (q := w.heap.size) (s := s) (by simp) (by simp [go_sem]))
  have hb := Lib.hid hb
  clear h hn
  generalize firstV (atB L s) = r at *
  go_enter Tryd.func124, Tryd.ntmps124
  go_wp2_with (go_at_call 154; (with_reducible refine hi.out.mono ?_); rintro e w2 ⟨rfl, hb2⟩)
  go_ret
  exact ⟨rfl, nextw hb.out hb2⟩

/-! ### registers -/
theorem reg1_any {w : World} {q : Nat} {x : Int} (hq : q < w.heap.size) (hc : w.cell? ⟨q, 0, none⟩ = some (.int .u32 x)) (r : Rg) :
    Calls Tryd.prog 129 #[.agg #[.int .u32 r.q, .int .u32 r.d, .int .u32 r.en, .bool r.init], .pointer (some ⟨q, 0, none⟩)] w fun e w' => e = .returned (.bool (r.q == x)) ∧ Below w.heap.size w w' := by
  have hb : Below w.heap.size w (w.alloc (.cells #[.int .u32 r.q, .int .u32 r.d, .int .u32 r.en, .bool r.init] 99)) := (Below.refl _ _).alloc (Nat.le_refl _) _
  have hc2 := stepc hb hq hc
  have hb := Lib.hid hb
  go_enter Tryd.func129, Tryd.ntmps129
  go_wp2
  go_ret
  exact ⟨rfl, hb.out⟩
def NoReg (R : List Rg) (x : Int) (j : Nat) : Prop := ∀ i, (hi : i < R.length) → i < j → (R[i].q == x) = false
theorem NoReg.next {R : List Rg} {x : Int} {j : Nat} (h : NoReg R x j) (hj : j < R.length) (hs : (R[j].q == x) = false) : NoReg R x (j + 1) := by
  intro i hi hij
  by_cases e : i = j
  · subst e; exact hs
  · exact h i hi (by omega)
theorem regAt_hit {R : List Rg} {x : Int} {j : Nat} (hj : j < R.length) (h : (R[j].q == x) = true) (hn : NoReg R x j) : regAt R x = some j := by
  unfold regAt
  rw [List.findIdx?_eq_some_iff_getElem]
  exact ⟨hj, h, fun i hi => by simp [hn i (by omega) hi]⟩
theorem regAt_miss {R : List Rg} {x : Int} (hn : NoReg R x R.length) : regAt R x = none := by
  unfold regAt
  rw [List.findIdx?_eq_none_iff]
  intro b hb
  obtain ⟨i, hi, rfl⟩ := List.getElem_of_mem hb
  exact hn i hi hi
theorem idxReg_any {w : World} {a : Option Addr} {n c : Nat} {R : List Rg} (h : RegRow w (.slice a n c) R) (hn : n = R.length) {q : Nat} {x : Int} (hq : q < w.heap.size) (hc : w.cell? ⟨q, 0, none⟩ = some (.int .u32 x)) :
    Calls Tryd.prog 128 #[.slice a n c, .func (.func 129) #[] #[.pointer (some ⟨q, 0, none⟩)]] w fun e w' => e = .returned (.int .i64 (firstV (regAt R x))) ∧ Below w.heap.size w w' := by
  have hle : n ≤ 9223372036854775807 := by rw [hn]; exact own_maxLen h
  have H := Lib.hid h
  have HC := Lib.hid hc
  have HN := Lib.hid hn
  clear h hc hn
  go_enter Tryd.func128, Tryd.ntmps128
  go_wp2
  go_loopw [8] (fun i wr => ∃ j : Nat, j ≤ n ∧ i = .int .i64 j ∧ Hid (Below w.heap.size w wr) ∧ Hid (NoReg R x j)) (fun i _ => n - (intOf i).toNat)
  case atStart => exact ⟨0, Nat.zero_le _, rfl, Lib.hid (Below.refl _ _), Lib.hid (fun i _ hi => by omega)⟩
  case round =>
    obtain ⟨j, hj, rfl, hw, hy⟩ := hrel
    by_cases hlt : j < n
    · have hjL : j < R.length := by rw [← HN.out]; exact hlt
      obtain ⟨g, rfl, hg, b0, b1, b2, b3⟩ := H.out.at hjL
      have c0 := stepc hw.out hg b0
      have c1 := stepc hw.out hg b1
      have c2 := stepc hw.out hg b2
      have c3 := stepc hw.out hg b3
      have hat := Lib.hid (reg1_any (Nat.lt_of_lt_of_le hq hw.out.size) (stepc hw.out hq HC.out) R[j])
      clear b0 b1 b2 b3
      by_cases hs : (R[j].q == x) = true
      · have hf := Lib.hid (regAt_hit hjL hs hy.out)
        rw [hs] at hat
        clear hs
        generalize R[j] = r at *
        obtain ⟨rq, rd, re, ri⟩ := r
        go_wp2_with (go_at_call 129; (with_reducible refine hat.out.mono ?_); rintro e w2 ⟨rfl, hb2⟩)
        go_ret
        rw [hf.out]
        exact ⟨rfl, nextw hw.out hb2⟩
      · have hs' : (R[j].q == x) = false := by simpa using hs
        have hf := Lib.hid (hy.out.next hjL hs')
        rw [hs'] at hat
        clear hs hs'
        generalize R[j] = r at *
        obtain ⟨rq, rd, re, ri⟩ := r
        go_wp2_with (go_at_call 129; (with_reducible refine hat.out.mono ?_); rintro e w2 ⟨rfl, hb2⟩)
        exact ⟨⟨j + 1, by omega, by go_num, Lib.hid (nextw hw.out hb2), hf⟩, by simp [intOf]; omega⟩
    · obtain rfl : j = n := by omega
      go_wp2
      go_ret
      have hm : NoReg R x R.length := by rw [← HN.out]; exact hy.out
      rw [regAt_miss hm]
      exact ⟨rfl, hw.out⟩

/-! ### copies of rows -/
theorem map_one (l : List Int) : ∀ u ∈ l.map (Value.int .u32), u.oneCell' = true := by
  intro u hu
  obtain ⟨z, -, rfl⟩ := List.mem_map.1 hu
  rfl
/-- A row that a call has made for itself. -/
structure MadeL (w w' : World) (a : Option Addr) (n c : Nat) (l : List Int) : Prop where
  len : l.length = n
  own : w'.ownsRow w.heap.size 94 1 (.slice a n c) n (l.map (Value.int .u32))
  below : Below w.heap.size w w'
theorem MadeL.lrow {w w' : World} {a : Option Addr} {n c : Nat} {l : List Int} (h : MadeL w w' a n c l) : LRow w' a n c l := ⟨h.len, own_base h.own (Nat.zero_le _)⟩
set_option maxHeartbeats 1000000 in
theorem clone_lit {w : World} {a : Option Addr} {n c : Nat} {l : List Int} (hs : Row .u32 w a n l) (hn : n ≤ 200000) :
    Calls Tryd.prog 125 #[.slice a n c] w fun e w' => ∃ (a2 : Option Addr) (c2 : Nat), e = .returned (.slice a2 n c2) ∧ MadeL w w' a2 n c2 l := by
  obtain ⟨i0, hi, hz0, hz1, hz2⟩ := info_parts info_lit
  have hlen := hs.len
  by_cases hnil : n = 0 ∧ a = none
  · obtain ⟨rfl, rfl⟩ := hnil
    have hl : l = [] := List.length_eq_zero_iff.1 hlen
    have heq : ∀ W, (binOp .eql 150 (.slice none 0 c) (.slice none 0 0)).run Tryd.prog W = .ok (.bool true) W := fun W => Lib.run_eql_slice_nil W _ _ _ _ _ _ _ Tryd.underlying150
    clear hs
    subst hl
    go_enter Tryd.func125, Tryd.ntmps125
    go_wp2
    go_ret
    exact ⟨none, 0, rfl, rfl, own_nil _ _ _, Below.refl _ _⟩
  · obtain ⟨ad, rfl⟩ : ∃ ad, a = some ad := by
      rcases hs.2.2 with h0 | ⟨b, off, h, -⟩
      · cases a with
        | none => exact absurd ⟨h0, rfl⟩ hnil
        | some ad => exact ⟨ad, rfl⟩
      · exact ⟨_, h⟩
    have hemp : Hid ((w.alloc (.cells #[] 94)).ownsRow w.heap.size 94 1 (.slice (some ⟨w.heap.size, 0, none⟩) 0 0) 0 []) := Lib.hid ⟨rfl, .inr ⟨w.heap.size, 0, #[], rfl, Nat.le_refl _, Deep.blk_alloc_new _ _, Nat.le_refl _, by decide, rfl, rfl⟩⟩
    have hb0 : Hid (Below w.heap.size w (w.alloc (.cells #[] 94))) := Lib.hid ((Below.refl _ _).alloc (Nat.le_refl _) _)
    have HN : Hid (∀ j u, (l.map (Value.int .u32))[j]? = some u → (w.alloc (.cells #[] 94)).cell? (ad.add j) = some u) := Lib.hid (fun j u hv => by
      have hj := (List.getElem?_eq_some_iff.1 hv).1
      simp only [List.length_map] at hj
      obtain ⟨b, off, h, hbl, hc⟩ := hs.at (by omega)
      cases h
      have e : (l.map (Value.int .u32))[j]? = some (.int .u32 (l.getD j 0)) := by simp [List.getD, hj]
      rw [e] at hv
      rw [← Option.some.inj hv, show (⟨b, off, none⟩ : Addr).add j = ⟨b, off + j, none⟩ by simp [Addr.add]]
      exact stepc hb0.out hbl (hc j (by omega)))
    have H1 := Lib.hid (map_one l)
    have HL : Hid ((l.map (Value.int .u32)).length = n * 1) := Lib.hid (by simp [hlen])
    have hlen := Lib.hid hlen
    clear hs hnil
    have heq : ∀ W, (binOp .eql 150 (.slice (some ad) n c) (.slice none 0 0)).run Tryd.prog W = .ok (.bool false) W := fun W => Lib.run_eql_slice_nil W _ _ _ _ _ _ _ Tryd.underlying150
    go_enter Tryd.func125, Tryd.ntmps125
    go_wp2_with (at_builtin; refine wpList_append_own_at _ rfl _ _ 150 rfl w.heap.size 94 i0 (.int .u32 0) 1 4 Tryd.underlying150 hi hz0 hz1 hz2 rfl (by decide) (.slice (some ⟨w.heap.size, 0, none⟩) 0 0) 0 [] rfl hemp.out ad n c (l.map (Value.int .u32)) rfl HL.out HN.out H1.out (by unfold maxLen; omega) (by omega) (by simp) ?_; intro v' w3 hown' hgrow hnil hloc)
    obtain ⟨a3, c3, rfl⟩ := own_slice hown'
    go_wp2
    go_ret
    rw [List.nil_append, Nat.zero_add] at hown'
    refine ⟨a3, c3, by simp, hlen.out, hown', ?_⟩
    exact hb0.out.grown hgrow (by simp) (fun k hk => by simp [Value.ownBlock] at hk; omega)

theorem info_reg : (Tryd.prog.info? 99).map (fun i => (i.zero, i.size, i.bytes)) = some (some (.agg #[.int .u32 0, .int .u32 0, .int .u32 0, .bool false]), 4, 16) := by kernel_rfl
theorem clone_reg {w : World} {a : Option Addr} {m c : Nat} {R : List Rg} (h : RegRow w (.slice a m c) R) (hmn : m = R.length) (hm : m ≤ 200000) :
    Calls Tryd.prog 120 #[.slice a m c] w fun e w' => ∃ (a2 : Option Addr) (c2 : Nat), e = .returned (.slice a2 m c2) ∧ w'.ownsRow w.heap.size 99 4 (.slice a2 m c2) m (rgCells R) ∧ Below w.heap.size w w' := by
  unfold RegRow at h
  rw [← hmn] at h
  obtain ⟨i0, hi, hz0, hz1, hz2⟩ := info_parts info_reg
  have hlen : (rgCells R).length = m * 4 := h.1
  have hone := rg_one R
  clear hmn
  generalize rgCells R = xs at *
  rcases h.2 with ⟨h0, h1⟩ | ⟨g, cap', cur, hv, -, -⟩
  · simp at h0
    obtain ⟨rfl, rfl, rfl⟩ := h0
    obtain rfl : xs = [] := List.length_eq_zero_iff.1 hlen
    clear h hlen hone h1
    have heq : ∀ W, (binOp .eql 90 (.slice none 0 0) (.slice none 0 0)).run Tryd.prog W = .ok (.bool true) W := fun W => Lib.run_eql_slice_nil W _ _ _ _ _ _ _ Tryd.underlying90
    go_enter Tryd.func120, Tryd.ntmps120
    go_wp2
    go_ret
    exact ⟨none, 0, rfl, ⟨rfl, .inl ⟨rfl, rfl⟩⟩, Below.refl _ _⟩
  · simp at hv
    obtain ⟨rfl, rfl⟩ := hv
    have hlt := own_lt h
    have hcells := h.cells (g := g) rfl
    have HO := Lib.hid (fun j u (h : xs[j]? = some u) => hcells j u h)
    have HL := Lib.hid hlen
    have H1 := Lib.hid hone
    have hemp : Hid ((w.alloc (.cells #[] 99)).ownsRow w.heap.size 99 4 (.slice (some ⟨w.heap.size, 0, none⟩) 0 0) 0 []) := Lib.hid ⟨rfl, .inr ⟨w.heap.size, 0, #[], rfl, Nat.le_refl _, Deep.blk_alloc_new _ _, Nat.le_refl _, by decide, rfl, rfl⟩⟩
    have hb0 : Hid (Below w.heap.size w (w.alloc (.cells #[] 99))) := Lib.hid ((Below.refl _ _).alloc (Nat.le_refl _) _)
    have hadd : ∀ j, (⟨g, 0, none⟩ : Addr).add j = ⟨g, j, none⟩ := fun j => by simp [Addr.add]; omega
    have HN := Lib.hid (fun j u (h : xs[j]? = some u) => (hb0.out.cell (p := (⟨g, 0, none⟩ : Addr).add j) (by rw [hadd]; exact hlt)).trans (HO.out j u h))
    clear h hcells hlen hone hadd
    have heq : ∀ W, (binOp .eql 90 (.slice (some ⟨g, 0, none⟩) m c) (.slice none 0 0)).run Tryd.prog W = .ok (.bool false) W := fun W => Lib.run_eql_slice_nil W _ _ _ _ _ _ _ Tryd.underlying90
    go_enter Tryd.func120, Tryd.ntmps120
    go_wp2_with (at_builtin; refine wpList_append_own_at _ rfl _ _ 90 rfl w.heap.size 99 i0 (.agg #[.int .u32 0, .int .u32 0, .int .u32 0, .bool false]) 4 16 Tryd.underlying90 hi hz0 hz1 hz2 rfl (by decide) (.slice (some ⟨w.heap.size, 0, none⟩) 0 0) 0 [] rfl hemp.out ⟨g, 0, none⟩ m c xs rfl (by rw [HL.out]) HN.out H1.out (by unfold maxLen; omega) (by omega) (by simp) ?_; intro v' w3 hown' hgrow hnil hloc)
    obtain ⟨a3, c3, rfl⟩ := own_slice hown'
    go_wp2
    go_ret
    rw [List.nil_append, Nat.zero_add] at hown'
    refine ⟨a3, c3, by simp, hown', ?_⟩
    exact hb0.out.grown hgrow (by simp) (fun k hk => by simp [Value.ownBlock] at hk; omega)

end Go.Proofs.YtnhpjacodhdpeaaDoor
end
