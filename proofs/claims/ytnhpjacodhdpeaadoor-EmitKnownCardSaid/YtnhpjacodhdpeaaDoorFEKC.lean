/-
  Package trace: names; where a bus of a name is.
  Squares, plainly: 64 rows of numbers; halves that change places.
  A square turned over, plainly: which bit comes from where.
  Rows of words, as a contract names them; what lanes may be.
  Package trace: which buses may be.
-/
import Derived.Test.YtnhpjacodhdpeaaDoorFEKB
import Derived.Laws.IdiomStrings
import Derived.Deep.CutBlock
import Derived.Deep.DeepCutAuto
import Derived.Test.YtnhpjacodhdpeaaDoorFEKA
import Derived.Deep.WholeRow
section
namespace Go.Proofs.YtnhpjacodhdpeaaDoor
open Go.RowKit Go.Maps
set_option maxRecDepth 100000

theorem spell_any (b : Int) (w : World) :
    Calls Tryd.prog 135 #[.int .u8 b] w fun e w' => e = .returned (.bool (spellT b)) ∧ w = w' := by
  go_enter Tryd.func135, Tryd.ntmps135
  go_wp2
  all_goals go_ret
  all_goals refine ⟨ret_bool ?_, rfl⟩
  all_goals unfold spellT
  all_goals (rw [Bool.eq_iff_iff]; simp; try omega)
theorem tbytes_at (w : World) (s : ByteArray) (cap : Nat) (e : Nat) (x : Nat × Nat) {j : Nat} (hj : j < s.size) : (w.alloc (.cells (bytesRow s cap) e x)).drew.cell? ⟨w.heap.size, j, none⟩ = some (.int .u8 ((s.data.toList.getD j 0).toNat : Int)) := by
  have h : j < s.data.size := hj
  have := bytesRow_at s cap j h
  have e1 : s.data.toList.getD j 0 = s.data[j] := by
    rw [List.getD_eq_getElem?_getD, Array.getElem?_toList, Array.getElem?_eq_getElem h]; rfl
  rw [e1, ← this]
  exact World.cell?_alloc_mark w _ _ _ _
theorem tspell_take (l : List UInt8) (j : Nat) (h : j < l.length) : spellA (l.take (j + 1)) = (spellA (l.take j) && spellT (l.getD j 0).toNat) := by
  unfold spellA
  rw [List.take_add_one, List.all_append]
  simp [List.getD, h]
theorem tspell_not (l : List UInt8) (j : Nat) (h : j < l.length) (hs : spellT (l.getD j 0).toNat = false) : spellA l = false := by
  unfold spellA
  rw [List.all_eq_false]
  refine ⟨l[j], List.getElem_mem _, ?_⟩
  simp [List.getD, h] at hs
  simp [hs]
theorem name_any (s : ByteArray) (w : World) :
    Calls Tryd.prog 89 #[.string s] w fun e w' => e = .returned (.bool (nameT s)) ∧ Below w.heap.size w w' := by
  have hcv2 := fun w => run_bytes_of_string (P := Tryd.prog) w 9 31 5 s Tryd.underlying9 Tryd.underlying31 Tryd.underlying5
  by_cases h1 : s.size < 1
  · have e : nameT s = false := by unfold nameT; simp; omega
    rw [e]
    have h1' : decide ((s.size : Int) < 1) = true := by simp; omega
    go_enter Tryd.func89, Tryd.ntmps89
    go_wp2
    go_ret
    exact ⟨rfl, Below.refl _ _⟩
  by_cases h2 : 33 < s.size
  · have e : nameT s = false := by unfold nameT; simp; omega
    rw [e]
    have h1' : decide ((s.size : Int) < 1) = false := by simp; omega
    have h2' : decide (33 < (s.size : Int)) = true := by simp; omega
    go_enter Tryd.func89, Tryd.ntmps89
    go_wp2
    go_ret
    exact ⟨rfl, Below.refl _ _⟩
  have hm : Hid (nameT s = spellA s.data.toList) := Lib.hid (by unfold nameT; rw [show decide (1 ≤ s.size) = true by simp; omega, show decide (s.size ≤ 33) = true by simp; omega]; rfl)
  have hl : Hid (s.data.toList.length = s.size) := Lib.hid (Array.length_toList)
  have h1' : decide ((s.size : Int) < 1) = false := by simp; omega
  have h2' : decide (33 < (s.size : Int)) = false := by simp; omega
  have hat := Lib.hid (fun cap x j (hj : j < s.size) => tbytes_at w s cap 5 x hj)
  have hsp := Lib.hid (fun b w => spell_any b w)
  rw [hm.out]
  have hs80 : s.size ≤ 33 := by omega
  have hB0 : Hid (∀ o, Below w.heap.size w (w.alloc o).drew) := Lib.hid (fun o => ((Below.refl _ _).alloc (Nat.le_refl _) o).drew)
  have hsz : Hid (∀ o, w.heap.size < (w.alloc o).drew.heap.size) := Lib.hid (fun o => by simp)
  go_enter Tryd.func89, Tryd.ntmps89
  go_wp2
  generalize grownCap w s.size 0 5 = cap
  have hat1 := Lib.hid (hat.out cap ((bytesRow s cap).size, (bytesRow s cap).size + 1))
  have hB1 := Lib.hid (hB0.out (.cells (bytesRow s cap) 5 ((bytesRow s cap).size, (bytesRow s cap).size + 1)))
  have hz1 := hsz.out (.cells (bytesRow s cap) 5 ((bytesRow s cap).size, (bytesRow s cap).size + 1))
  generalize (w.alloc (.cells (bytesRow s cap) 5 ((bytesRow s cap).size, (bytesRow s cap).size + 1))).drew = w1 at *
  clear hat hB0 hsz hcv2
  go_loopw [16] (fun i wr => ∃ j : Nat, j ≤ s.size ∧ i = .int .i64 j ∧ Hid (Below w1.heap.size w1 wr) ∧ Hid (spellA (s.data.toList.take j) = true)) (fun i _ => s.size - (intOf i).toNat)
  case atStart => exact ⟨0, Nat.zero_le _, rfl, Lib.hid (Below.refl _ _), Lib.hid rfl⟩
  case round =>
    obtain ⟨j, hj, rfl, hw, ht⟩ := hrel
    by_cases hlt : j < s.size
    · have hc := stepc hw.out hz1 (hat1.out j hlt)
      have hn := Lib.hid (tspell_not s.data.toList j (by rw [hl.out]; exact hlt))
      have htk := Lib.hid (tspell_take s.data.toList j (by rw [hl.out]; exact hlt))
      generalize (s.data.toList.getD j 0).toNat = b at *
      have hsb := Lib.hid (hsp.out b)
      by_cases hb : spellT b = true
      · rw [hb] at hsb
        go_wp2_with (go_at_call 135; (with_reducible refine (hsb.out _).mono ?_); rintro e w2 ⟨rfl, rfl⟩)
        exact ⟨⟨j + 1, by omega, by go_num, hw, Lib.hid (by rw [htk.out, ht.out, hb]; rfl)⟩, by simp [intOf]; omega⟩
      · rw [show spellT b = false by simpa using hb] at hsb
        go_wp2_with (go_at_call 135; (with_reducible refine (hsb.out _).mono ?_); rintro e w2 ⟨rfl, rfl⟩)
        go_ret
        rw [hn.out (by simpa using hb)]
        exact ⟨rfl, nextw hB1.out hw.out⟩
    · obtain rfl : j = s.size := by omega
      rw [← hl.out, List.take_length] at ht
      go_wp2
      go_ret
      rw [ht.out]
      exact ⟨rfl, nextw hB1.out hw.out⟩

theorem tat1_any {w : World} {q : Nat} {s : ByteArray} (hq : q < w.heap.size) (hc : w.cell? ⟨q, 0, none⟩ = some (.string s)) (n : ByteArray) (z : Int) :
    Calls Tryd.prog 88 #[.agg #[.string n, .int .i64 z], .pointer (some ⟨q, 0, none⟩)] w fun e w' => e = .returned (.bool (sameS n s)) ∧ Below w.heap.size w w' := by
  have hb : Below w.heap.size w (w.alloc (.cells #[.string n, .int .i64 z] 69)) := (Below.refl _ _).alloc (Nat.le_refl _) _
  have hc2 := stepc hb hq hc
  have hb := Lib.hid hb
  go_enter Tryd.func88, Tryd.ntmps88
  go_wp2
  go_ret
  exact ⟨rfl, hb.out⟩
theorem idx_any {w : World} {a : Option Addr} {n : Nat} {L : List TB} (h : BsR w a n L) (c : Nat) {q : Nat} {s : ByteArray} (hq : q < w.heap.size) (hc : w.cell? ⟨q, 0, none⟩ = some (.string s)) :
    Calls Tryd.prog 87 #[.slice a n c, .func (.func 88) #[] #[.pointer (some ⟨q, 0, none⟩)]] w fun e w' => e = .returned (.int .i64 (firstT (atT L s))) ∧ Below w.heap.size w w' := by
  have hle := h.le
  have H := Lib.hid h
  have HC := Lib.hid hc
  have HN := Lib.hid h.len
  clear h hc
  go_enter Tryd.func87, Tryd.ntmps87
  go_wp2
  go_loopw [8] (fun i wr => ∃ j : Nat, j ≤ n ∧ i = .int .i64 j ∧ Hid (Below w.heap.size w wr) ∧ Hid (∀ i, i < j → sameS (L.getD i tb0).name s = false)) (fun i _ => n - (intOf i).toNat)
  case atStart => exact ⟨0, Nat.zero_le _, rfl, Lib.hid (Below.refl _ _), Lib.hid (fun i hi => by omega)⟩
  case round =>
    obtain ⟨j, hj, rfl, hw, hy⟩ := hrel
    by_cases hlt : j < n
    · have hjL : j < L.length := by rw [HN.out]; exact hlt
      obtain ⟨g, off, rfl, hg, hcell⟩ := H.out.at (by omega)
      obtain ⟨b0, b1⟩ := hcell j hlt
      have c0 := stepc hw.out hg b0
      have c1 := stepc hw.out hg b1
      have hat := Lib.hid (tat1_any (Nat.lt_of_lt_of_le hq hw.out.size) (stepc hw.out hq HC.out) (L.getD j tb0).name (L.getD j tb0).width)
      have hjn : (j : Int) < n := by omega
      clear b0 b1 hcell
      by_cases hs : sameS (L.getD j tb0).name s = true
      · have hf := Lib.hid (atT_hit hjL hs (fun i hi => hy.out i hi))
        rw [hs] at hat
        generalize (L.getD j tb0).name = nm at *
        generalize (L.getD j tb0).width = wd at *
        go_wp2_with (go_at_call 88; (with_reducible refine hat.out.mono ?_); rintro e w2 ⟨rfl, hb2⟩)
        go_ret
        rw [hf.out]
        exact ⟨rfl, nextw hw.out hb2⟩
      · have hs' : sameS (L.getD j tb0).name s = false := by simpa using hs
        have hf : Hid (∀ i, i < j + 1 → sameS (L.getD i tb0).name s = false) := Lib.hid (fun i hi => by
          by_cases e : i = j
          · rw [e]; exact hs'
          · exact hy.out i (by omega))
        rw [hs'] at hat
        clear hs hs'
        generalize (L.getD j tb0).name = nm at *
        generalize (L.getD j tb0).width = wd at *
        go_wp2_with (go_at_call 88; (with_reducible refine hat.out.mono ?_); rintro e w2 ⟨rfl, hb2⟩)
        exact ⟨⟨j + 1, by omega, by go_num, Lib.hid (nextw hw.out hb2), hf⟩, by simp [intOf]; omega⟩
    · obtain rfl : j = n := by omega
      go_wp2
      go_ret
      rw [atT_miss (fun i hi => hy.out i (by rw [← HN.out]; exact hi))]
      exact ⟨rfl, hw.out⟩
theorem tat_any {w : World} {a : Option Addr} {n : Nat} {L : List TB} (h : BsR w a n L) (c : Nat) (s : ByteArray) :
    Calls Tryd.prog 46 #[.slice a n c, .string s] w fun e w' => e = .returned (.int .i64 (firstT (atT L s))) ∧ Below w.heap.size w w' := by
  have hb : Below w.heap.size w (w.alloc (.cells #[.string s] 9)) := (Below.refl _ _).alloc (Nat.le_refl _) _
  have hi := Lib.hid (idx_any (h.step hb) c (q := w.heap.size) (s := s) (by simp) (by simp [go_sem]))
  have hb := Lib.hid hb
  clear h
  generalize firstT (atT L s) = r at *
  go_enter Tryd.func46, Tryd.ntmps46
  go_wp2_with (go_at_call 87; (with_reducible refine hi.out.mono ?_); rintro e w2 ⟨rfl, hb2⟩)
  go_ret
  exact ⟨rfl, nextw hb.out hb2⟩
end Go.Proofs.YtnhpjacodhdpeaaDoor
end

section
namespace Go.Proofs.YtnhpjacodhdpeaaDoor
open Go.RowKit

/-- An array of 64 words. -/
def sqA (f : Nat → Nat) : Array Value := ((List.range 64).map (fun i => Value.int .u64 (f i : Nat))).toArray
theorem sqA_size (f : Nat → Nat) : (sqA f).size = 64 := by simp [sqA]
theorem sqA_get (f : Nat → Nat) (i : Nat) (h : i < 64) : (sqA f)[i]? = some (.int .u64 (f i : Nat)) := by simp [sqA, h]
theorem sqA_congr {f g : Nat → Nat} (h : ∀ i, i < 64 → f i = g i) : sqA f = sqA g := by
  unfold sqA
  congr 1
  apply List.map_congr_left
  intro i hi
  rw [h i (by simpa using hi)]
theorem sqA_one (f : Nat → Nat) : (sqA f).all (·.oneCell') = true := by
  rw [Array.all_eq_true_iff_forall_mem]
  intro x hx
  simp [sqA] at hx
  obtain ⟨i, _, rfl⟩ := hx
  rfl
/-- One row written anew. -/
def upd (f : Nat → Nat) (i v : Nat) : Nat → Nat := fun j => if j = i then v else f j
theorem sqA_set (f : Nat → Nat) (i v : Nat) (h : i < 64) : (sqA f).setIfInBounds i (.int .u64 (v : Nat)) = sqA (upd f i v) := by
  apply Array.ext_getElem?
  intro j
  rw [Array.getElem?_setIfInBounds]
  by_cases e : i = j
  · subst e
    rw [if_pos rfl, if_pos (by rw [sqA_size]; exact h), sqA_get _ _ h, show upd f i v i = v from if_pos rfl]
  · by_cases hj : j < 64
    · rw [sqA_get _ _ hj, sqA_get _ _ hj]; simp [e, upd, show ¬ j = i from fun x => e x.symm]
    · simp [e, sqA, hj]

/-- A block that has a square. -/
def Blk (w : World) (b : Nat) (f : Nat → Nat) : Prop := w.heap[b]? = some (.cells (sqA f) 163 (0, 0))
theorem Blk.lt {w : World} {b : Nat} {f : Nat → Nat} (h : Blk w b f) : b < w.heap.size := (Array.getElem?_eq_some_iff.1 h).1
theorem Blk.step {W w1 : World} {b : Nat} {f : Nat → Nat} (h : Blk W b f) (hb : Below W.heap.size W w1) : Blk w1 b f := by
  unfold Blk; rw [hb.block b h.lt]; exact h
theorem Blk.cell {w : World} {b : Nat} {f : Nat → Nat} (h : Blk w b f) {i : Nat} (hi : i < 64) : w.cell? ⟨b, i, none⟩ = some (.int .u64 (f i : Nat)) := by
  rw [cell_of_row w b i _ _ _ h, sqA_get _ _ hi]
theorem Blk.thaw {w : World} {b : Nat} {f : Nat → Nat} (h : Blk w b f) (i : Nat) : w.frozen? ⟨b, i, none⟩ = false := frozen_of_row w b i _ _ h
theorem Blk.set {w : World} {b : Nat} {f : Nat → Nat} (h : Blk w b f) {i v : Nat} (hi : i < 64) : Blk (w.setCell ⟨b, i, none⟩ (.int .u64 (v : Nat))) b (upd f i v) := by
  unfold Blk; rw [setCell_eq_setRow w b i _ _ _ _ h, setRow_heap w b _ _ _ _ h, sqA_set _ _ _ hi]
theorem Blk.other {w : World} {b : Nat} {f : Nat → Nat} (h : Blk w b f) {a : Addr} (hne : b ≠ a.block) (v : Value) : Blk (w.setCell a v) b f := by
  unfold Blk; simp only [World.setCell, Array.getElem?_modify]; rw [if_neg (fun e => hne e.symm)]; exact h
theorem Blk.drew {w : World} {b : Nat} {f : Nat → Nat} (h : Blk w b f) : Blk w.drew b f := h
theorem Blk.new (w : World) (f : Nat → Nat) : Blk (w.alloc (.cells (sqA f) 163)) w.heap.size f := heap_alloc_new w _
theorem Blk.old {w : World} {b : Nat} {f : Nat → Nat} (h : Blk w b f) (o : Obj) : Blk (w.alloc o) b f := by
  unfold Blk; show (w.heap.push o)[b]? = _; rw [Array.getElem?_push, if_neg (Nat.ne_of_lt h.lt)]; exact h

theorem Blk.drewN {w : World} {b : Nat} {f : Nat → Nat} (h : Blk w b f) (n : Nat) : Blk (w.drewN n) b f := by unfold Blk at h ⊢; simpa using h
theorem below_drewN (w : World) (n : Nat) : Below w.heap.size w (w.drewN n) := ⟨rfl, rfl, rfl, Nat.le_refl _, fun _ _ => rfl⟩

/-- Where two quarters differ. -/
def differ (f : Nat → Nat) (half near i : Nat) : Nat := ((f i / 2 ^ half) ^^^ f (i + half)) &&& near
/-- A row of a square, its halves changed about. -/
def halvesN (f : Nat → Nat) (half near i : Nat) : Nat :=
  if i &&& half = 0 then f i ^^^ (differ f half near i * 2 ^ half % 18446744073709551616) else f i ^^^ differ f half near (i - half)
/-- As far as row n. -/
def halves (f : Nat → Nat) (half near n : Nat) (i : Nat) : Nat :=
  if (if i &&& half = 0 then i else i - half) < n then halvesN f half near i else f i

def Half (half : Nat) : Prop := half = 32 ∨ half = 16 ∨ half = 8 ∨ half = 4 ∨ half = 2 ∨ half = 1

theorem half_in {half : Nat} (h : Half half) : ∀ i, i < 64 → i &&& half = 0 → i + half < 64 ∧ (i + half) &&& half ≠ 0 := by
  rcases h with rfl | rfl | rfl | rfl | rfl | rfl <;> decide +kernel
theorem half_out {half : Nat} (h : Half half) : ∀ i, i < 64 → i &&& half ≠ 0 → half ≤ i ∧ (i - half) &&& half = 0 := by
  rcases h with rfl | rfl | rfl | rfl | rfl | rfl <;> decide +kernel
theorem half_pos {half : Nat} (h : Half half) : 1 ≤ half ∧ half ≤ 32 := by rcases h with rfl | rfl | rfl | rfl | rfl | rfl <;> decide

theorem halves_zero (f : Nat → Nat) (half near : Nat) : halves f half near 0 = f := by funext i; unfold halves; rw [if_neg (by omega)]
theorem halves_skip {f : Nat → Nat} {half near n : Nat} (hh : Half half) (hn : n < 64) (h : ¬ n &&& half = 0) : sqA (halves f half near (n + 1)) = sqA (halves f half near n) := by
  apply sqA_congr
  intro i hi
  unfold halves
  by_cases hi0 : i &&& half = 0
  · rw [if_pos hi0]
    have : i ≠ n := fun e => h (e ▸ hi0)
    by_cases hlt : i < n
    · rw [if_pos hlt, if_pos (by omega)]
    · rw [if_neg hlt, if_neg (by omega)]
  · rw [if_neg hi0]
    have := half_out hh i hi hi0
    have : i - half ≠ n := fun e => h (e ▸ this.2)
    by_cases hlt : i - half < n
    · rw [if_pos hlt, if_pos (by omega)]
    · rw [if_neg hlt, if_neg (by omega)]
theorem halves_do {f : Nat → Nat} {half near n : Nat} (hh : Half half) (hn : n < 64) (h : n &&& half = 0) :
    sqA (halves f half near (n + 1)) = sqA (upd (upd (halves f half near n) n (f n ^^^ (differ f half near n * 2 ^ half % 18446744073709551616))) (n + half) (f (n + half) ^^^ differ f half near n)) := by
  have hp := half_pos hh
  have hin := half_in hh n hn h
  apply sqA_congr
  intro i hi
  by_cases e1 : i = n + half
  · subst e1
    unfold upd halves halvesN
    rw [if_neg hin.2, if_pos (by omega), if_neg hin.2, if_pos rfl, show n + half - half = n by omega]
  · by_cases e2 : i = n
    · subst e2
      unfold upd halves halvesN
      rw [if_pos h, if_pos (by omega), if_pos h, if_neg (by omega), if_pos rfl]
    · unfold upd
      rw [if_neg e1, if_neg e2]
      unfold halves
      by_cases hi0 : i &&& half = 0
      · rw [if_pos hi0]
        by_cases hlt : i < n
        · rw [if_pos hlt, if_pos (by omega)]
        · rw [if_neg hlt, if_neg (by omega)]
      · rw [if_neg hi0]
        have := half_out hh i hi hi0
        by_cases hlt : i - half < n
        · rw [if_pos hlt, if_pos (by omega)]
        · rw [if_neg hlt, if_neg (by omega)]
theorem halves_all {f : Nat → Nat} {half near : Nat} (hh : Half half) : sqA (halves f half near 64) = sqA (halvesN f half near) := by
  apply sqA_congr
  intro i hi
  unfold halves
  by_cases h : i &&& half = 0
  · rw [if_pos h, if_pos (by omega)]
  · rw [if_neg h, if_pos (by omega)]
theorem halves_here {f : Nat → Nat} {half near n : Nat} (h : n &&& half = 0) : halves f half near n n = f n := by unfold halves; rw [if_pos h, if_neg (by omega)]
theorem halves_there {f : Nat → Nat} {half near n : Nat} (hh : Half half) (hn : n < 64) (h : n &&& half = 0) : halves f half near n (n + half) = f (n + half) := by
  unfold halves; rw [if_neg (half_in hh n hn h).2, if_neg (by omega)]

theorem and64n {a b : Nat} (ha : a < 18446744073709551616) (hb : b < 18446744073709551616) : bits .and .u64 (a : Int) (b : Int) = ((a &&& b : Nat) : Int) := by
  rw [Num.and64 (by omega) (by omega) (by omega) (by omega), Int.toNat_natCast, Int.toNat_natCast]
theorem or64n {a b : Nat} (ha : a < 18446744073709551616) (hb : b < 18446744073709551616) : bits .or .u64 (a : Int) (b : Int) = ((a ||| b : Nat) : Int) := by
  rw [Num.or64 (by omega) (by omega) (by omega) (by omega), Int.toNat_natCast, Int.toNat_natCast]
theorem xor64n {a b : Nat} (ha : a < 18446744073709551616) (hb : b < 18446744073709551616) : bits .xor .u64 (a : Int) (b : Int) = ((a ^^^ b : Nat) : Int) := by
  rw [Num.xor64 (by omega) (by omega) (by omega) (by omega), Int.toNat_natCast, Int.toNat_natCast]
theorem andI64n {a b : Nat} (ha : a < 9223372036854775808) (hb : b < 9223372036854775808) : bits .and .i64 (a : Int) (b : Int) = ((a &&& b : Nat) : Int) := by
  show IntKind.i64.wrap ((BitVec.ofInt 64 (a : Int) &&& BitVec.ofInt 64 (b : Int)).toNat : Int) = _
  rw [BitVec.toNat_and, Num.of64 (by omega) (by omega), Num.of64 (by omega) (by omega), Int.toNat_natCast, Int.toNat_natCast, IntKind.wrap_i64]
  have : a &&& b < 2 ^ 63 := Nat.and_lt_two_pow _ (by omega)
  omega
theorem lt_xor {a b : Nat} (ha : a < 18446744073709551616) (hb : b < 18446744073709551616) : a ^^^ b < 18446744073709551616 := Nat.xor_lt_two_pow (n := 64) ha hb
theorem lt_and {a b : Nat} (hb : b < 18446744073709551616) : a &&& b < 18446744073709551616 := Nat.and_lt_two_pow (n := 64) a hb
theorem lt_div {a : Nat} (k : Nat) (ha : a < 18446744073709551616) : a / k < 18446744073709551616 := Nat.lt_of_le_of_lt (Nat.div_le_self _ _) ha
theorem differ_lt {f : Nat → Nat} {half near i : Nat} (hn : near < 18446744073709551616) : differ f half near i < 18446744073709551616 := lt_and hn
theorem halvesN_lt {f : Nat → Nat} {half near : Nat} (hf : ∀ i, f i < 18446744073709551616) (hn : near < 18446744073709551616) (i : Nat) : halvesN f half near i < 18446744073709551616 := by
  unfold halvesN; split
  · exact lt_xor (hf i) (Nat.mod_lt _ (by decide))
  · exact lt_xor (hf i) (differ_lt hn)

/-- What the walk meets: where they differ, and both rows written anew. -/
theorem differ_walk {x y half near : Nat} (hx : x < 18446744073709551616) (hy : y < 18446744073709551616) (hn : near < 18446744073709551616) :
    bits .and .u64 (bits .xor .u64 ((x : Int) / 2 ^ half) (y : Int)) (near : Int) = ((((x / 2 ^ half) ^^^ y) &&& near : Nat) : Int) := by
  have e : (x : Int) / 2 ^ half = ((x / 2 ^ half : Nat) : Int) := by rw [Int.natCast_ediv, Int.natCast_pow]; rfl
  rw [e, xor64n (lt_div _ hx) hy, and64n (lt_xor (lt_div _ hx) hy) hn]
theorem near_walk {x d half : Nat} (hx : x < 18446744073709551616) :
    bits .xor .u64 (x : Int) (IntKind.u64.wrap ((d : Int) * 2 ^ half)) = ((x ^^^ (d * 2 ^ half % 18446744073709551616) : Nat) : Int) := by
  have e : IntKind.u64.wrap ((d : Int) * 2 ^ half) = ((d * 2 ^ half % 18446744073709551616 : Nat) : Int) := by rw [Num.w64, Int.natCast_emod, Int.natCast_mul, Int.natCast_pow]; rfl
  rw [e, xor64n hx (Nat.mod_lt _ (by decide))]
end Go.Proofs.YtnhpjacodhdpeaaDoor
end

section
namespace Go.Proofs.YtnhpjacodhdpeaaDoor
open Go.RowKit

def hv (k : Nat) : Nat := 32 / 2 ^ k
def nv : Nat → Nat
  | 0 => 18446744073709551615
  | k + 1 => nv k ^^^ (nv k * 2 ^ hv k % 18446744073709551616)
def stepF (f : Nat → Nat) : Nat → Nat → Nat
  | 0 => f
  | k + 1 => halvesN (stepF f k) (hv k) (nv (k + 1))
def turn (f : Nat → Nat) : Nat → Nat := stepF f 6

theorem six {k : Nat} (h : k < 6) : k = 0 ∨ k = 1 ∨ k = 2 ∨ k = 3 ∨ k = 4 ∨ k = 5 := by omega
theorem hv_half {k : Nat} (h : k < 6) : Half (hv k) := by rcases six h with rfl | rfl | rfl | rfl | rfl | rfl <;> simp [Half, hv]
theorem hv_next (k : Nat) : hv (k + 1) = hv k / 2 := by unfold hv; rw [Nat.pow_succ, Nat.div_div_eq_div_mul]
theorem hv_pos {k : Nat} (h : k < 6) : 0 < hv k := (half_pos (hv_half h)).1
theorem hv_end : hv 6 = 0 := rfl
theorem nv_lt (k : Nat) : nv k < 18446744073709551616 := by
  cases k with
  | zero => decide
  | succ k => exact lt_xor (nv_lt k) (Nat.mod_lt _ (by decide))
theorem stepF_lt {f : Nat → Nat} (hf : ∀ i, f i < 18446744073709551616) : ∀ k i, stepF f k i < 18446744073709551616 := by
  intro k
  induction k with
  | zero => exact hf
  | succ k ih => exact halvesN_lt ih (nv_lt _)
theorem turn_lt {f : Nat → Nat} (hf : ∀ i, f i < 18446744073709551616) (i : Nat) : turn f i < 18446744073709551616 := stepF_lt hf 6 i

/-- The lower halves. -/
theorem near_low : ∀ k, k < 6 → ∀ j, j < 64 → (nv (k + 1)).testBit j = (j &&& hv k == 0) := by decide +kernel
theorem ix_low : ∀ k, k < 6 → ∀ j, j < 64 → j &&& hv k = 0 → (j + hv k < 64 ∧ j + hv k = j ^^^ hv k ∧ (hv k ≤ j → (j - hv k) &&& hv k ≠ 0)) := by decide +kernel
theorem ix_high : ∀ k, k < 6 → ∀ j, j < 64 → j &&& hv k ≠ 0 → (hv k ≤ j ∧ (j - hv k) &&& hv k = 0 ∧ j - hv k = j ^^^ hv k) := by decide +kernel

theorem testBit_up (d h j : Nat) (hj : j < 64) : (d * 2 ^ h % 18446744073709551616).testBit j = (decide (h ≤ j) && d.testBit (j - h)) := by
  rw [show (18446744073709551616 : Nat) = 2 ^ 64 from rfl, Nat.testBit_mod_two_pow, Nat.testBit_mul_two_pow]
  simp [hj]
theorem testBit_differ (f : Nat → Nat) (h near i t : Nat) : (differ f h near i).testBit t = (((f i).testBit (t + h) ^^ (f (i + h)).testBit t) && near.testBit t) := by
  unfold differ
  rw [Nat.testBit_and, Nat.testBit_xor, Nat.testBit_div_two_pow]

/-- Where a bit comes from. -/
def sw (k i j : Nat) : Nat × Nat := if (i &&& hv k == 0) = (j &&& hv k == 0) then (i, j) else (i ^^^ hv k, j ^^^ hv k)
theorem halves_bit (f : Nat → Nat) {k i j : Nat} (hk : k < 6) (hi : i < 64) (hj : j < 64) :
    (halvesN f (hv k) (nv (k + 1)) i).testBit j = (f (sw k i j).1).testBit (sw k i j).2 := by
  unfold halvesN
  by_cases h1 : i &&& hv k = 0
  · obtain ⟨a1, a2, -⟩ := ix_low k hk i hi h1
    rw [if_pos h1, Nat.testBit_xor, testBit_up _ _ _ hj, testBit_differ]
    by_cases h2 : j &&& hv k = 0
    · obtain ⟨b1, b2, b3⟩ := ix_low k hk j hj h2
      have e : (decide (hv k ≤ j) && (((f i).testBit (j - hv k + hv k) ^^ (f (i + hv k)).testBit (j - hv k)) && (nv (k + 1)).testBit (j - hv k))) = false := by
        by_cases h3 : hv k ≤ j
        · rw [near_low k hk (j - hv k) (by omega)]
          have := b3 h3
          simp [this]
        · simp [h3]
      rw [e]
      simp [sw, h1, h2]
    · obtain ⟨b1, b2, b3⟩ := ix_high k hk j hj h2
      rw [near_low k hk (j - hv k) (by omega), Nat.sub_add_cancel b1]
      simp [sw, h1, h2, b1, b2]
      rw [a2, b3]
  · obtain ⟨a1, a2, a3⟩ := ix_high k hk i hi h1
    rw [if_neg h1, Nat.testBit_xor, testBit_differ, near_low k hk j hj, Nat.sub_add_cancel a1]
    by_cases h2 : j &&& hv k = 0
    · obtain ⟨b1, b2, b3⟩ := ix_low k hk j hj h2
      simp [sw, h1, h2]
      rw [← a3, b2]
      cases (f i).testBit j <;> cases (f (i - hv k)).testBit (j ^^^ hv k) <;> rfl
    · have e1 : (i &&& hv k == 0) = false := by simpa using h1
      have e2 : (j &&& hv k == 0) = false := by simpa using h2
      unfold sw
      rw [e1, e2]
      simp
theorem sw_lt : ∀ k, k < 6 → ∀ i, i < 64 → ∀ j, j < 64 → (sw k i j).1 < 64 ∧ (sw k i j).2 < 64 := by decide +kernel
/-- Where a bit comes from, all in all. -/
def path : Nat → Nat → Nat → Nat × Nat
  | 0, i, j => (i, j)
  | k + 1, i, j => path k (sw k i j).1 (sw k i j).2
theorem path_end : ∀ i, i < 64 → ∀ j, j < 64 → path 6 i j = (j, i) := by decide +kernel
theorem stepF_bit (f : Nat → Nat) : ∀ k, k ≤ 6 → ∀ i j, i < 64 → j < 64 → (stepF f k i).testBit j = (f (path k i j).1).testBit (path k i j).2 := by
  intro k
  induction k with
  | zero => intro _ i j _ _; rfl
  | succ k ih =>
    intro hk i j hi hj
    have hs := sw_lt k (by omega) i hi j hj
    show (halvesN (stepF f k) (hv k) (nv (k + 1)) i).testBit j = _
    rw [halves_bit _ (by omega) hi hj, ih (by omega) _ _ hs.1 hs.2]
    rfl
theorem turn_bit (f : Nat → Nat) {i j : Nat} (hi : i < 64) (hj : j < 64) : (turn f i).testBit j = (f j).testBit i := by
  unfold turn
  rw [stepF_bit f 6 (Nat.le_refl _) i j hi hj, path_end i hi j hj]

/-- Words are told by their bits. -/
theorem word_ext {a b : Nat} (ha : a < 18446744073709551616) (hb : b < 18446744073709551616) (h : ∀ j, j < 64 → a.testBit j = b.testBit j) : a = b := by
  apply Nat.eq_of_testBit_eq
  intro j
  by_cases hj : j < 64
  · exact h j hj
  · have hp : (18446744073709551616 : Nat) ≤ 2 ^ j := by
      rw [show (18446744073709551616 : Nat) = 2 ^ 64 from rfl]; exact Nat.pow_le_pow_right (by decide) (by omega)
    rw [Nat.testBit_lt_two_pow (by omega), Nat.testBit_lt_two_pow (by omega)]
theorem turn_turn {f : Nat → Nat} (hf : ∀ i, f i < 18446744073709551616) {i : Nat} (hi : i < 64) : turn (turn f) i = f i :=
  word_ext (turn_lt (turn_lt hf) i) (hf i) (fun j hj => by rw [turn_bit _ hi hj, turn_bit _ hj hi])
theorem turn_and {f g : Nat → Nat} (hf : ∀ i, f i < 18446744073709551616) (hg : ∀ i, g i < 18446744073709551616) {i : Nat} (hi : i < 64) : turn (fun k => f k &&& g k) i = turn f i &&& turn g i :=
  word_ext (turn_lt (fun i => lt_and (hg i)) i) (lt_and (turn_lt hg i)) (fun j hj => by rw [turn_bit _ hi hj, Nat.testBit_and, Nat.testBit_and, turn_bit _ hi hj, turn_bit _ hi hj])
theorem turn_xor {f g : Nat → Nat} (hf : ∀ i, f i < 18446744073709551616) (hg : ∀ i, g i < 18446744073709551616) {i : Nat} (hi : i < 64) : turn (fun k => f k ^^^ g k) i = turn f i ^^^ turn g i :=
  word_ext (turn_lt (fun i => lt_xor (hf i) (hg i)) i) (lt_xor (turn_lt hf i) (turn_lt hg i)) (fun j hj => by rw [turn_bit _ hi hj, Nat.testBit_xor, Nat.testBit_xor, turn_bit _ hi hj, turn_bit _ hi hj])
theorem testBit_not {a : Nat} (ha : a < 18446744073709551616) {j : Nat} (hj : j < 64) : (18446744073709551615 - a).testBit j = !a.testBit j := by
  rw [show 18446744073709551615 - a = 2 ^ 64 - (a + 1) by omega, Nat.testBit_two_pow_sub_succ (by omega)]
  simp [hj]
theorem turn_not {f : Nat → Nat} (hf : ∀ i, f i < 18446744073709551616) {i : Nat} (hi : i < 64) : turn (fun k => 18446744073709551615 - f k) i = 18446744073709551615 - turn f i :=
  word_ext (turn_lt (fun i => by omega) i) (by omega) (fun j hj => by rw [turn_bit _ hi hj, testBit_not (hf j) hi, testBit_not (turn_lt hf i) hj, turn_bit _ hi hj])
theorem bit_shift (a j : Nat) : a / 2 ^ j % 2 = if a.testBit j then 1 else 0 := by
  rw [Nat.testBit_eq_decide_div_mod_eq]
  by_cases h : a / 2 ^ j % 2 = 1
  · simp [h]
  · have : a / 2 ^ j % 2 = 0 := by omega
    simp [this]
end Go.Proofs.YtnhpjacodhdpeaaDoor
end

section
namespace Go.Proofs.YtnhpjacodhdpeaaDoor
open Go.RowKit

/-- What a slice of words holds. -/
def WRow (w : World) (a : Option Addr) (n : Nat) (f : Nat → Nat) : Prop :=
  n ≤ 9223372036854775807 ∧ (n = 0 ∨ ∃ b off, a = some ⟨b, off, none⟩ ∧ b < w.heap.size ∧ ∀ i, i < n → w.cell? ⟨b, off + i, none⟩ = some (.int .u64 (f i : Nat)))
theorem WRow.step {W w1 : World} {a : Option Addr} {n : Nat} {f : Nat → Nat} (h : WRow W a n f) (hb : Below W.heap.size W w1) : WRow w1 a n f := by
  obtain ⟨h1, h3⟩ := h
  refine ⟨h1, ?_⟩
  rcases h3 with h3 | ⟨b, off, rfl, hlt, hc⟩
  · exact .inl h3
  · exact .inr ⟨b, off, rfl, Nat.lt_of_lt_of_le hlt hb.size, fun i hi => stepc hb hlt (hc i hi)⟩
theorem WRow.at {W : World} {a : Option Addr} {n : Nat} {f : Nat → Nat} (h : WRow W a n f) (hn : 0 < n) : ∃ b off, a = some ⟨b, off, none⟩ ∧ b < W.heap.size ∧ ∀ i, i < n → W.cell? ⟨b, off + i, none⟩ = some (.int .u64 (f i : Nat)) := by
  rcases h.2 with h0 | h
  · omega
  · exact h
theorem WRow.nil (W : World) (a : Option Addr) (f : Nat → Nat) : WRow W a 0 f := ⟨by omega, .inl rfl⟩
theorem WRow.congr {W : World} {a : Option Addr} {n : Nat} {f g : Nat → Nat} (h : WRow W a n f) (hfg : ∀ i, i < n → f i = g i) : WRow W a n g := by
  refine ⟨h.1, ?_⟩
  rcases h.2 with h0 | ⟨b, off, ha, hlt, hc⟩
  · exact .inl h0
  · exact .inr ⟨b, off, ha, hlt, fun i hi => by rw [hc i hi, hfg i hi]⟩
theorem WRow.take {W : World} {a : Option Addr} {n : Nat} {f : Nat → Nat} (h : WRow W a n f) {m : Nat} (hm : m ≤ n) : WRow W a m f := by
  refine ⟨by have := h.1; omega, ?_⟩
  rcases h.2 with h0 | ⟨b, off, ha, hlt, hc⟩
  · exact .inl (by omega)
  · exact .inr ⟨b, off, ha, hlt, fun i hi => hc i (by omega)⟩
/-- A square's rows. -/
theorem WRow.of_blk {w : World} {b : Nat} {f : Nat → Nat} (h : Blk w b f) {n : Nat} (hn : n ≤ 64) : WRow w (some ⟨b, 0, none⟩) n f :=
  ⟨by omega, .inr ⟨b, 0, rfl, h.lt, fun i hi => by rw [Nat.zero_add]; exact h.cell (by omega)⟩⟩

/-- The words of a row that a call has made. -/
def wl (n : Nat) (f : Nat → Nat) : List Value := (List.range n).map (fun i => Value.int .u64 (f i : Nat))
theorem wl_length (n : Nat) (f : Nat → Nat) : (wl n f).length = n := by simp [wl]
theorem wl_get (n : Nat) (f : Nat → Nat) (i : Nat) (h : i < n) : (wl n f)[i]? = some (.int .u64 (f i : Nat)) := by simp [wl, h]
theorem wl_snoc (n : Nat) (f : Nat → Nat) : wl (n + 1) f = wl n f ++ [.int .u64 (f n : Nat)] := by simp [wl, List.range_succ]
theorem wl_congr {n : Nat} {f g : Nat → Nat} (h : ∀ i, i < n → f i = g i) : wl n f = wl n g := by
  unfold wl
  apply List.map_congr_left
  intro i hi
  rw [h i (by simpa using hi)]
theorem wl_one (n : Nat) (f : Nat → Nat) : ∀ u ∈ wl n f, u.oneCell' = true := by
  intro u hu
  simp [wl] at hu
  obtain ⟨i, _, rfl⟩ := hu
  rfl
theorem wl_set (n : Nat) (f : Nat → Nat) (i v : Nat) : (wl n f).set i (.int .u64 (v : Nat)) = wl n (upd f i v) := by
  apply List.ext_getElem?
  intro j
  rw [List.getElem?_set]
  by_cases hj : j < n
  · rw [wl_get _ _ _ hj, wl_get _ _ _ hj]
    by_cases e : i = j
    · subst e; rw [if_pos rfl, if_pos (by rw [wl_length]; exact hj), show upd f i v i = v from if_pos rfl]
    · rw [if_neg e, show upd f i v j = f j from if_neg (fun x => e x.symm)]
  · have e2 : ∀ g, (wl n g)[j]? = none := fun g => List.getElem?_eq_none (by rw [wl_length]; omega)
    rw [e2, e2]
    by_cases e : i = j
    · rw [if_pos e, if_neg (by rw [wl_length]; omega)]
    · rw [if_neg e]
theorem wl_made (n : Nat) : (madeCells (Value.int .u64 0).cells (n * 1)).toList = wl n (fun _ => 0) := by
  apply List.ext_getElem
  · simp [madeCells, wl, Value.cells]
  · intro i h1 h2; simp [madeCells, wl, Value.cells, Nat.mod_one]
theorem WRow.of_own {w : World} {base k cap T : Nat} {a : Option Addr} {f : Nat → Nat} (h : w.ownsRow base T 1 (.slice a k cap) k (wl k f)) (hk : k ≤ 9223372036854775807) : WRow w a k f := by
  refine ⟨hk, ?_⟩
  by_cases h0 : k = 0
  · exact .inl h0
  · right
    rcases h.2 with ⟨_, h1⟩ | ⟨g, cap', cur, hv, hb, hh, r⟩
    · exact absurd h1 h0
    · simp at hv
      obtain ⟨rfl, rfl⟩ := hv
      have hc := fun i hi => h.cellAt (j := i) hi
      refine ⟨g, 0, rfl, (Array.getElem?_eq_some_iff.1 hh).1, fun i hi => ?_⟩
      rw [Nat.zero_add, hc i (by omega), wl_get _ _ _ hi]

/-- What lanes may be: of that width, and these words. -/
def mayH (W : Int) (n : Nat) (f : Nat → Nat) : Bool := may false false W && (List.range n).all (fun i => isw false false W (f i : Nat))
theorem mayH_zero (W : Int) (f : Nat → Nat) : mayH W 0 f = may false false W := by simp [mayH]
theorem mayH_no {W : Int} {n : Nat} {f : Nat → Nat} {j : Nat} (hj : j < n) (h : isw false false W (f j : Nat) = false) : mayH W n f = false := by
  unfold mayH
  rw [Bool.and_eq_false_iff]
  right
  rw [List.all_eq_false]
  exact ⟨j, by simpa using hj, by simp [h]⟩
theorem mayH_yes {W : Int} {n : Nat} {f : Nat → Nat} (h : ∀ j, j < n → isw false false W (f j : Nat) = true) : mayH W n f = may false false W := by
  unfold mayH
  rw [List.all_eq_true.2 (fun x hx => h x (by simpa using hx)), Bool.and_true]
theorem may_iff (W : Int) : may false false W = true ↔ 1 ≤ W ∧ W ≤ 64 := by simp [may]
theorem isw_iff {W : Nat} (hW : 1 ≤ W ∧ W ≤ 64) (x : Nat) : isw false false (W : Int) (x : Int) = true ↔ x < 2 ^ W := by
  constructor
  · intro h
    obtain ⟨-, -, -, h4⟩ := isw_bd h
    rw [Int.toNat_natCast] at h4
    exact_mod_cast h4
  · intro h
    exact isw_mk ((may_iff _).2 (by omega)) (by omega) (by rw [Int.toNat_natCast]; exact_mod_cast h)
theorem mayH_iff {W n : Nat} {f : Nat → Nat} : mayH (W : Int) n f = true ↔ (1 ≤ W ∧ W ≤ 64) ∧ ∀ i, i < n → f i < 2 ^ W := by
  unfold mayH
  rw [Bool.and_eq_true, may_iff, List.all_eq_true]
  constructor
  · rintro ⟨h1, h2⟩
    have h1' : 1 ≤ W ∧ W ≤ 64 := by omega
    exact ⟨h1', fun i hi => (isw_iff h1' _).1 (h2 i (by simpa using hi))⟩
  · rintro ⟨h1, h2⟩
    exact ⟨by omega, fun i hi => (isw_iff h1 _).2 (h2 i (by simpa using hi))⟩
end Go.Proofs.YtnhpjacodhdpeaaDoor
end

section
namespace Go.Proofs.YtnhpjacodhdpeaaDoor
open Go.RowKit Go.Maps
set_option maxRecDepth 100000

theorem busT_all {L : List TB} (h1 : 1 ≤ L.length) (h2 : L.length ≤ 512) (h : ∀ i, i < L.length → busT L i = true) : busesT L = true := by
  unfold busesT; rw [range_all h]; simp; omega
theorem busT_not {L : List TB} {i : Nat} (hi : i < L.length) (h : busT L i = false) : busesT L = false := by
  unfold busesT; rw [range_not hi h]; simp

set_option maxHeartbeats 2000000 in
theorem mayBuses_any {w : World} {a : Option Addr} {n : Nat} {L : List TB} (h : BsR w a n L) (c : Nat) (hc : n ≤ c) :
    Calls Tryd.prog 49 #[.slice a n c] w fun e w' => e = .returned (.bool (busesT L)) ∧ Below w.heap.size w w' := by
  have hle := h.le
  have H := Lib.hid h
  have hl := h.len
  clear h
  by_cases h1 : n < 1
  · have e : busesT L = false := by unfold busesT; simp; omega
    rw [e]
    have h1' : decide ((n : Int) < 1) = true := by simp; omega
    go_enter Tryd.func49, Tryd.ntmps49
    go_wp2
    go_ret
    exact ⟨rfl, Below.refl _ _⟩
  by_cases h2 : 512 < n
  · have e : busesT L = false := by unfold busesT; simp; omega
    rw [e]
    have h1' : decide ((n : Int) < 1) = false := by simp; omega
    have h2' : decide (512 < (n : Int)) = true := by simp; omega
    go_enter Tryd.func49, Tryd.ntmps49
    go_wp2
    go_ret
    exact ⟨rfl, Below.refl _ _⟩
  have h1' : decide ((n : Int) < 1) = false := by simp; omega
  have h2' : decide (512 < (n : Int)) = false := by simp; omega
  go_enter Tryd.func49, Tryd.ntmps49
  go_wp2
  go_loopw [15] (fun i wr => ∃ j : Nat, j ≤ n ∧ i = .int .i64 j ∧ Hid (Below w.heap.size w wr) ∧ Hid (∀ i, i < j → busT L i = true)) (fun i _ => n - (intOf i).toNat)
  case atStart => exact ⟨0, Nat.zero_le _, rfl, Lib.hid (Below.refl _ _), Lib.hid (fun i hi => by omega)⟩
  case round =>
    obtain ⟨j, hj, rfl, hw, hy⟩ := hrel
    by_cases hlt : j < n
    · obtain ⟨g, off, rfl, hg, hcell⟩ := H.out.at (by omega)
      obtain ⟨b0, b1⟩ := hcell j hlt
      have c0 := stepc hw.out hg b0
      have c1 := stepc hw.out hg b1
      have hjn : (j : Int) < n := by omega
      have hR := Lib.hid ((H.out.step hw.out).take j (by omega))
      clear b0 b1 hcell
      generalize hnm : (L.getD j tb0).name = nm at *
      generalize hwd : (L.getD j tb0).width = wd at *
      have hbox : ∀ x, x = wr.alloc (.cells #[.string nm, .int .i64 wd] 69) → Below wr.heap.size wr x ∧ wr.heap.size < x.heap.size ∧ x.cell? ⟨wr.heap.size, 0, none⟩ = some (.string nm) ∧ x.cell? ⟨wr.heap.size, 1, none⟩ = some (.int .i64 wd) := by
        rintro x rfl
        exact ⟨(Below.refl _ _).alloc (Nat.le_refl _) _, by simp, by simp [go_sem], by simp [go_sem]⟩
      have hbox := Lib.hid hbox
      have hK2 : Hid (busT L j = true → ∀ i, i < j + 1 → busT L i = true) := Lib.hid (fun h i hi => by
        by_cases e : i = j
        · rw [e]; exact h
        · exact hy.out i (by omega))
      have hK3 : Hid (busT L j = false → busesT L = false) := Lib.hid (fun h => busT_not (by omega) h)
      have hbt : Hid (busT L j = (nameT nm && wideT wd && (atT (L.take j) nm).isNone)) := Lib.hid (by show busT L j = _; unfold busT; rw [hnm, hwd])
      have hnA := Lib.hid (fun w => name_any nm w)
      clear hnm hwd hy
      go_upto_region 6 with fail
      generalize hwa : wr.alloc (.cells #[.string nm, .int .i64 wd] 69) = wa
      obtain ⟨hba, hza, d0, d1⟩ := hbox.out wa hwa.symm
      have hatA := Lib.hid (fun q => tat_any (hR.out.step (nextw hba (ext_below wa q))) c nm)
      have x0 : ∀ q, (ext wa q).cell? ⟨wr.heap.size, 0, none⟩ = some (.string nm) := fun q => stepc (ext_below wa q) hza d0
      have x1 : ∀ q, (ext wa q).cell? ⟨wr.heap.size, 1, none⟩ = some (.int .i64 wd) := fun q => stepc (ext_below wa q) hza d1
      have hBa := Lib.hid (nextw hw.out hba)
      clear hbox d0 d1 hwa hR hw hba
      rcases (show nameT nm = false ∨ nameT nm = true by cases nameT nm <;> simp) with k1 | k1
      · rw [k1] at hnA hbt
        have r := Lib.hid (hK3.out hbt.out)
        clear hatA hK2 hK3 hbt k1
        (refine wp_region_ext (by kernel_rfl) (by kernel_rfl) ?_; (repeat (go_big_quiet_step ((go_at_call 89; exact Calls.ext_of (hnA.out _))))); refine wpQuiet_nil ?_; intro w2 hw'; have hb2 := below_of_ext hw'; clear hw')
        go_wp2
        go_ret
        exact ⟨ret_bool r.out.symm, nextw hBa.out hb2⟩
      rw [k1] at hnA hbt
      by_cases k2 : wd < 1
      · have g2 : decide (wd < 1) = true := by simpa using k2
        have r := Lib.hid (hK3.out (by rw [hbt.out]; unfold wideT; simp; omega))
        clear hatA hK2 hK3 hbt k1 k2
        (refine wp_region_ext (by kernel_rfl) (by kernel_rfl) ?_; (repeat (go_big_quiet_step ((go_at_call 89; exact Calls.ext_of (hnA.out _))))); refine wpQuiet_nil ?_; intro w2 hw'; have hb2 := below_of_ext hw'; clear hw')
        go_wp2
        go_ret
        exact ⟨ret_bool r.out.symm, nextw hBa.out hb2⟩
      have g2 : decide (wd < 1) = false := by simpa using k2
      by_cases k3 : 64 < wd
      · have g3 : decide (64 < wd) = true := by simpa using k3
        have r := Lib.hid (hK3.out (by rw [hbt.out]; unfold wideT; simp; omega))
        clear hatA hK2 hK3 hbt k1 k2 k3
        (refine wp_region_ext (by kernel_rfl) (by kernel_rfl) ?_; (repeat (go_big_quiet_step ((go_at_call 89; exact Calls.ext_of (hnA.out _))))); refine wpQuiet_nil ?_; intro w2 hw'; have hb2 := below_of_ext hw'; clear hw')
        go_wp2
        go_ret
        exact ⟨ret_bool r.out.symm, nextw hBa.out hb2⟩
      have g3 : decide (64 < wd) = false := by simpa using k3
      have kw : wideT wd = true := by unfold wideT; simp; omega
      rw [kw] at hbt
      clear k1 k2 k3 kw
      cases k4 : (atT (L.take j) nm).isNone
      · have g4 : decide (0 ≤ firstT (atT (L.take j) nm)) = true := by simpa using firstT_some k4
        have r := Lib.hid (hK3.out (by rw [hbt.out, k4]; rfl))
        clear hK2 hK3 hbt k4
        generalize firstT (atT (L.take j) nm) = ft at *
        (refine wp_region_ext (by kernel_rfl) (by kernel_rfl) ?_; (repeat (go_big_quiet_step ((first | (go_at_call 89; exact Calls.ext_of (hnA.out _)) | (go_at_call 46; exact Calls.ext_of (hatA.out _)))))); refine wpQuiet_nil ?_; intro w2 hw'; have hb2 := below_of_ext hw'; clear hw')
        go_wp2
        go_ret
        exact ⟨ret_bool r.out.symm, nextw hBa.out hb2⟩
      · have g4 : decide (0 ≤ firstT (atT (L.take j) nm)) = false := by rw [firstT_none k4]; rfl
        have r := Lib.hid (hK2.out (by rw [hbt.out, k4]; rfl))
        clear hK2 hK3 hbt k4
        generalize firstT (atT (L.take j) nm) = ft at *
        (refine wp_region_ext (by kernel_rfl) (by kernel_rfl) ?_; (repeat (go_big_quiet_step ((first | (go_at_call 89; exact Calls.ext_of (hnA.out _)) | (go_at_call 46; exact Calls.ext_of (hatA.out _)))))); refine wpQuiet_nil ?_; intro w2 hw'; have hb2 := below_of_ext hw'; clear hw')
        go_wp2
        exact ⟨⟨j + 1, by omega, by go_num, Lib.hid (nextw hBa.out hb2), r⟩, by simp [intOf]; omega⟩
    · obtain rfl : j = n := by omega
      go_wp2
      go_ret
      rw [busT_all (by omega) (by omega) (fun i hi => hy.out i (by omega))]
      exact ⟨rfl, hw.out⟩
end Go.Proofs.YtnhpjacodhdpeaaDoor
end
