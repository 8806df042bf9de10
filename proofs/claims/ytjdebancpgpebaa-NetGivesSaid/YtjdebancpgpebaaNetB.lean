/-
  Where a bus of a name is, where a register of a Q is; Find; rows of literals and of registers copied.
-/
import Derived.Test.YtjdebancpgpebaaNetA
import Derived.Shelf.SlMaps.Clone
namespace Go.Proofs.Ytjdebancpgpebaa
open Go.RowKit Go.Maps
set_option maxRecDepth 100000

theorem at1_any {w : World} {q : Nat} {s : ByteArray} (hq : q < w.heap.size) (hc : w.cell? ⟨q, 0, none⟩ = some (.string s)) (n : ByteArray) (a : Option Addr) (m c : Nat) :
    Calls Try.prog 62 #[.agg #[.string n, .slice a m c], .pointer (some ⟨q, 0, none⟩)] w fun e w' => e = .returned (.bool (sameN n s)) ∧ Below w.heap.size w w' := by
  have hb : Below w.heap.size w (w.alloc (.cells #[.string n, .slice a m c] 46)) := (Below.refl _ _).alloc (Nat.le_refl _) _
  have hc2 := stepc hb hq hc
  have hb := Lib.hid hb
  go_enter Try.func62, Try.ntmps62
  go_wp2
  go_ret
  exact ⟨rfl, hb.out⟩
theorem atB_hit {L : List Bus} {s : ByteArray} {j : Nat} (hj : j < L.length) (h : sameN L[j].name s = true) (hn : ∀ i, (hi : i < j) → sameN (L[i]'(by omega)).name s = false) : atB L s = some j := by
  unfold atB
  rw [List.findIdx?_eq_some_iff_getElem]
  exact ⟨hj, h, fun i hi => by simp [hn i hi]⟩
theorem atB_miss {L : List Bus} {s : ByteArray} (hn : ∀ i, (hi : i < L.length) → sameN L[i].name s = false) : atB L s = none := by
  unfold atB
  rw [List.findIdx?_eq_none_iff]
  intro b hb
  obtain ⟨i, hi, rfl⟩ := List.getElem_of_mem hb
  exact hn i hi
/-- The first j have another name. -/
def NotYet (L : List Bus) (s : ByteArray) (j : Nat) : Prop := ∀ i, (hi : i < L.length) → i < j → sameN L[i].name s = false
theorem NotYet.next {L : List Bus} {s : ByteArray} {j : Nat} (h : NotYet L s j) (hj : j < L.length) (hs : sameN L[j].name s = false) : NotYet L s (j + 1) := by
  intro i hi hij
  by_cases e : i = j
  · subst e; exact hs
  · exact h i hi (by omega)
theorem idxBus_any {w : World} {a : Option Addr} {n c : Nat} {L : List Bus} (h : BusRow w (.slice a n c) L) (hn : n = L.length) {q : Nat} {s : ByteArray} (hq : q < w.heap.size) (hc : w.cell? ⟨q, 0, none⟩ = some (.string s)) :
    Calls Try.prog 61 #[.slice a n c, .func (.func 62) #[] #[.pointer (some ⟨q, 0, none⟩)]] w fun e w' => e = .returned (.int .i64 (firstV (atB L s))) ∧ Below w.heap.size w w' := by
  have hle : n ≤ 9223372036854775807 := by obtain ⟨K, hK⟩ := h; rw [hn]; exact own_maxLen hK.own
  have H := Lib.hid h
  have HC := Lib.hid hc
  have HN := Lib.hid hn
  clear h hc hn
  go_enter Try.func61, Try.ntmps61
  go_wp2
  go_loopw [8] (fun i wr => ∃ j : Nat, j ≤ n ∧ i = .int .i64 j ∧ Hid (Below w.heap.size w wr) ∧ Hid (NotYet L s j)) (fun i _ => n - (intOf i).toNat)
  case atStart => exact ⟨0, Nat.zero_le _, rfl, Lib.hid (Below.refl _ _), Lib.hid (fun i _ hi => by omega)⟩
  case round =>
    obtain ⟨j, hj, rfl, hw, hy⟩ := hrel
    by_cases hlt : j < n
    · have hjL : j < L.length := by rw [← HN.out]; exact hlt
      obtain ⟨g, la, lc, rfl, hg, b0, b1, -⟩ := H.out.at hjL
      have c0 := stepc hw.out hg b0
      have c1 := stepc hw.out hg b1
      have hat := Lib.hid (at1_any (Nat.lt_of_lt_of_le hq hw.out.size) (stepc hw.out hq HC.out) L[j].name la L[j].lits.length lc)
      clear b0 b1
      by_cases hs : sameN L[j].name s = true
      · have hf := Lib.hid (atB_hit hjL hs (fun i hi => hy.out i (by omega) hi))
        rw [hs] at hat
        generalize L[j].name = nm at *
        generalize L[j].lits.length = ll at *
        go_wp2_with (go_at_call 62; (with_reducible refine hat.out.mono ?_); rintro e w2 ⟨rfl, hb2⟩)
        go_ret
        rw [hf.out]
        exact ⟨rfl, nextw hw.out hb2⟩
      · have hs' : sameN L[j].name s = false := by simpa using hs
        have hf := Lib.hid (hy.out.next hjL hs')
        rw [hs'] at hat
        generalize L[j].name = nm at *
        generalize L[j].lits.length = ll at *
        go_wp2_with (go_at_call 62; (with_reducible refine hat.out.mono ?_); rintro e w2 ⟨rfl, hb2⟩)
        exact ⟨⟨j + 1, by omega, by go_num, Lib.hid (nextw hw.out hb2), hf⟩, by simp [intOf]; omega⟩
    · obtain rfl : j = n := by omega
      go_wp2
      go_ret
      rw [atB_miss (fun i hi => hy.out i hi (by rw [HN.out]; exact hi))]
      exact ⟨rfl, hw.out⟩
theorem at_any {w : World} {a : Option Addr} {n c : Nat} {L : List Bus} (h : BusRow w (.slice a n c) L) (hn : n = L.length) (s : ByteArray) :
    Calls Try.prog 42 #[.slice a n c, .string s] w fun e w' => e = .returned (.int .i64 (firstV (atB L s))) ∧ Below w.heap.size w w' := by
  have hb : Below w.heap.size w (w.alloc (.cells #[.string s] 9)) := (Below.refl _ _).alloc (Nat.le_refl _) _
  have hi := Lib.hid (idxBus_any (h.below hb) hn (q := w.heap.size) (s := s) (by simp) (by simp [go_sem]))
  have hb := Lib.hid hb
  clear h hn
  generalize firstV (atB L s) = r at *
  go_enter Try.func42, Try.ntmps42
  go_wp2_with (go_at_call 61; (with_reducible refine hi.out.mono ?_); rintro e w2 ⟨rfl, hb2⟩)
  go_ret
  exact ⟨rfl, nextw hb.out hb2⟩

/-! ### registers -/
theorem reg1_any {w : World} {q : Nat} {x : Int} (hq : q < w.heap.size) (hc : w.cell? ⟨q, 0, none⟩ = some (.int .u32 x)) (r : Rg) :
    Calls Try.prog 52 #[.agg #[.int .u32 r.q, .int .u32 r.d, .int .u32 r.en, .bool r.init], .pointer (some ⟨q, 0, none⟩)] w fun e w' => e = .returned (.bool (r.q == x)) ∧ Below w.heap.size w w' := by
  have hb : Below w.heap.size w (w.alloc (.cells #[.int .u32 r.q, .int .u32 r.d, .int .u32 r.en, .bool r.init] 52)) := (Below.refl _ _).alloc (Nat.le_refl _) _
  have hc2 := stepc hb hq hc
  have hb := Lib.hid hb
  go_enter Try.func52, Try.ntmps52
  go_wp2
  go_ret
  exact ⟨rfl, hb.out⟩
def NoReg (R : List Rg) (x : Int) (j : Nat) : Prop := ∀ i, (hi : i < R.length) → i < j → (R[i].q == x) = false
theorem NoReg.next {R : List Rg} {x : Int} {j : Nat} (h : NoReg R x j) (hj : j < R.length) (hs : (R[j].q == x) = false) : NoReg R x (j + 1) := by
  intro i hi hij
  by_cases e : i = j
  · subst e; exact hs
  · exact h i hi (by omega)
theorem regAt_hit {R : List Rg} {x : Int} {j : Nat} (hj : j < R.length) (h : (R[j].q == x) = true) (hn : NoReg R x j) : regAt R x = some j := by
  unfold regAt
  rw [List.findIdx?_eq_some_iff_getElem]
  exact ⟨hj, h, fun i hi => by simp [hn i (by omega) hi]⟩
theorem regAt_miss {R : List Rg} {x : Int} (hn : NoReg R x R.length) : regAt R x = none := by
  unfold regAt
  rw [List.findIdx?_eq_none_iff]
  intro b hb
  obtain ⟨i, hi, rfl⟩ := List.getElem_of_mem hb
  exact hn i hi hi
theorem idxReg_any {w : World} {a : Option Addr} {n c : Nat} {R : List Rg} (h : RegRow w (.slice a n c) R) (hn : n = R.length) {q : Nat} {x : Int} (hq : q < w.heap.size) (hc : w.cell? ⟨q, 0, none⟩ = some (.int .u32 x)) :
    Calls Try.prog 51 #[.slice a n c, .func (.func 52) #[] #[.pointer (some ⟨q, 0, none⟩)]] w fun e w' => e = .returned (.int .i64 (firstV (regAt R x))) ∧ Below w.heap.size w w' := by
  have hle : n ≤ 9223372036854775807 := by rw [hn]; exact own_maxLen h
  have H := Lib.hid h
  have HC := Lib.hid hc
  have HN := Lib.hid hn
  clear h hc hn
  go_enter Try.func51, Try.ntmps51
  go_wp2
  go_loopw [8] (fun i wr => ∃ j : Nat, j ≤ n ∧ i = .int .i64 j ∧ Hid (Below w.heap.size w wr) ∧ Hid (NoReg R x j)) (fun i _ => n - (intOf i).toNat)
  case atStart => exact ⟨0, Nat.zero_le _, rfl, Lib.hid (Below.refl _ _), Lib.hid (fun i _ hi => by omega)⟩
  case round =>
    obtain ⟨j, hj, rfl, hw, hy⟩ := hrel
    by_cases hlt : j < n
    · have hjL : j < R.length := by rw [← HN.out]; exact hlt
      obtain ⟨g, rfl, hg, b0, b1, b2, b3⟩ := H.out.at hjL
      have c0 := stepc hw.out hg b0
      have c1 := stepc hw.out hg b1
      have c2 := stepc hw.out hg b2
      have c3 := stepc hw.out hg b3
      have hat := Lib.hid (reg1_any (Nat.lt_of_lt_of_le hq hw.out.size) (stepc hw.out hq HC.out) R[j])
      clear b0 b1 b2 b3
      by_cases hs : (R[j].q == x) = true
      · have hf := Lib.hid (regAt_hit hjL hs hy.out)
        rw [hs] at hat
        clear hs
        generalize R[j] = r at *
        obtain ⟨rq, rd, re, ri⟩ := r
        go_wp2_with (go_at_call 52; (with_reducible refine hat.out.mono ?_); rintro e w2 ⟨rfl, hb2⟩)
        go_ret
        rw [hf.out]
        exact ⟨rfl, nextw hw.out hb2⟩
      · have hs' : (R[j].q == x) = false := by simpa using hs
        have hf := Lib.hid (hy.out.next hjL hs')
        rw [hs'] at hat
        clear hs hs'
        generalize R[j] = r at *
        obtain ⟨rq, rd, re, ri⟩ := r
        go_wp2_with (go_at_call 52; (with_reducible refine hat.out.mono ?_); rintro e w2 ⟨rfl, hb2⟩)
        exact ⟨⟨j + 1, by omega, by go_num, Lib.hid (nextw hw.out hb2), hf⟩, by simp [intOf]; omega⟩
    · obtain rfl : j = n := by omega
      go_wp2
      go_ret
      have hm : NoReg R x R.length := by rw [← HN.out]; exact hy.out
      rw [regAt_miss hm]
      exact ⟨rfl, hw.out⟩

/-! ### copies of rows -/
theorem map_one (l : List Int) : ∀ u ∈ l.map (Value.int .u32), u.oneCell' = true := by
  intro u hu
  obtain ⟨z, -, rfl⟩ := List.mem_map.1 hu
  rfl
/-- A row that a call has made for itself. -/
structure MadeL (w w' : World) (a : Option Addr) (n c : Nat) (l : List Int) : Prop where
  len : l.length = n
  own : w'.ownsRow w.heap.size 50 1 (.slice a n c) n (l.map (Value.int .u32))
  below : Below w.heap.size w w'
theorem MadeL.lrow {w w' : World} {a : Option Addr} {n c : Nat} {l : List Int} (h : MadeL w w' a n c l) : LRow w' a n c l := ⟨h.len, own_base h.own (Nat.zero_le _)⟩
set_option maxHeartbeats 1000000 in
theorem clone_lit {w : World} {a : Option Addr} {n c : Nat} {l : List Int} (hs : Row .u32 w a n l) (hn : n ≤ 200000) :
    Calls Try.prog 43 #[.slice a n c] w fun e w' => ∃ (a2 : Option Addr) (c2 : Nat), e = .returned (.slice a2 n c2) ∧ MadeL w w' a2 n c2 l := by
  obtain ⟨i0, hi, hz0, hz1, hz2⟩ := info_parts info_lit
  have hlen := hs.len
  by_cases hnil : n = 0 ∧ a = none
  · obtain ⟨rfl, rfl⟩ := hnil
    have hl : l = [] := List.length_eq_zero_iff.1 hlen
    have heq : ∀ W, (binOp .eql 39 (.slice none 0 c) (.slice none 0 0)).run Try.prog W = .ok (.bool true) W := fun W => Lib.run_eql_slice_nil W _ _ _ _ _ _ _ Try.underlying39
    clear hs
    subst hl
    go_enter Try.func43, Try.ntmps43
    go_wp2
    go_ret
    exact ⟨none, 0, rfl, rfl, own_nil _ _ _, Below.refl _ _⟩
  · obtain ⟨ad, rfl⟩ : ∃ ad, a = some ad := by
      rcases hs.2.2 with h0 | ⟨b, off, h, -⟩
      · cases a with
        | none => exact absurd ⟨h0, rfl⟩ hnil
        | some ad => exact ⟨ad, rfl⟩
      · exact ⟨_, h⟩
    have hemp : Hid ((w.alloc (.cells #[] 50)).ownsRow w.heap.size 50 1 (.slice (some ⟨w.heap.size, 0, none⟩) 0 0) 0 []) := Lib.hid ⟨rfl, .inr ⟨w.heap.size, 0, #[], rfl, Nat.le_refl _, Deep.blk_alloc_new _ _, Nat.le_refl _, by decide, rfl, rfl⟩⟩
    have hb0 : Hid (Below w.heap.size w (w.alloc (.cells #[] 50))) := Lib.hid ((Below.refl _ _).alloc (Nat.le_refl _) _)
    have HN : Hid (∀ j u, (l.map (Value.int .u32))[j]? = some u → (w.alloc (.cells #[] 50)).cell? (ad.add j) = some u) := Lib.hid (fun j u hv => by
      have hj := (List.getElem?_eq_some_iff.1 hv).1
      simp only [List.length_map] at hj
      obtain ⟨b, off, h, hbl, hc⟩ := hs.at (by omega)
      cases h
      have e : (l.map (Value.int .u32))[j]? = some (.int .u32 (l.getD j 0)) := by simp [List.getD, hj]
      rw [e] at hv
      rw [← Option.some.inj hv, show (⟨b, off, none⟩ : Addr).add j = ⟨b, off + j, none⟩ by simp [Addr.add]]
      exact stepc hb0.out hbl (hc j (by omega)))
    have H1 := Lib.hid (map_one l)
    have HL : Hid ((l.map (Value.int .u32)).length = n * 1) := Lib.hid (by simp [hlen])
    have hlen := Lib.hid hlen
    clear hs hnil
    have heq : ∀ W, (binOp .eql 39 (.slice (some ad) n c) (.slice none 0 0)).run Try.prog W = .ok (.bool false) W := fun W => Lib.run_eql_slice_nil W _ _ _ _ _ _ _ Try.underlying39
    go_enter Try.func43, Try.ntmps43
    go_wp2_with (at_builtin; refine wpList_append_own_at _ rfl _ _ 39 rfl w.heap.size 50 i0 (.int .u32 0) 1 4 Try.underlying39 hi hz0 hz1 hz2 rfl (by decide) (.slice (some ⟨w.heap.size, 0, none⟩) 0 0) 0 [] rfl hemp.out ad n c (l.map (Value.int .u32)) rfl HL.out HN.out H1.out (by unfold maxLen; omega) (by omega) (by simp) ?_; intro v' w3 hown' hgrow hnil hloc)
    obtain ⟨a3, c3, rfl⟩ := own_slice hown'
    go_wp2
    go_ret
    rw [List.nil_append, Nat.zero_add] at hown'
    refine ⟨a3, c3, by simp, hlen.out, hown', ?_⟩
    exact hb0.out.grown hgrow (by simp) (fun k hk => by simp [Value.ownBlock] at hk; omega)

theorem info_reg : (Try.prog.info? 52).map (fun i => (i.zero, i.size, i.bytes)) = some (some (.agg #[.int .u32 0, .int .u32 0, .int .u32 0, .bool false]), 4, 16) := by kernel_rfl
theorem clone_reg {w : World} {a : Option Addr} {m c : Nat} {R : List Rg} (h : RegRow w (.slice a m c) R) (hmn : m = R.length) (hm : m ≤ 200000) :
    Calls Try.prog 25 #[.slice a m c] w fun e w' => ∃ (a2 : Option Addr) (c2 : Nat), e = .returned (.slice a2 m c2) ∧ w'.ownsRow w.heap.size 52 4 (.slice a2 m c2) m (rgCells R) ∧ Below w.heap.size w w' := by
  unfold RegRow at h
  rw [← hmn] at h
  obtain ⟨i0, hi, hz0, hz1, hz2⟩ := info_parts info_reg
  have hlen : (rgCells R).length = m * 4 := h.1
  have hone := rg_one R
  clear hmn
  generalize rgCells R = xs at *
  rcases h.2 with ⟨h0, h1⟩ | ⟨g, cap', cur, hv, -, -⟩
  · simp at h0
    obtain ⟨rfl, rfl, rfl⟩ := h0
    obtain rfl : xs = [] := List.length_eq_zero_iff.1 hlen
    clear h hlen hone h1
    have heq : ∀ W, (binOp .eql 31 (.slice none 0 0) (.slice none 0 0)).run Try.prog W = .ok (.bool true) W := fun W => Lib.run_eql_slice_nil W _ _ _ _ _ _ _ Try.underlying31
    go_enter Try.func25, Try.ntmps25
    go_wp2
    go_ret
    exact ⟨none, 0, rfl, ⟨rfl, .inl ⟨rfl, rfl⟩⟩, Below.refl _ _⟩
  · simp at hv
    obtain ⟨rfl, rfl⟩ := hv
    have hlt := own_lt h
    have hcells := h.cells (g := g) rfl
    have HO := Lib.hid (fun j u (h : xs[j]? = some u) => hcells j u h)
    have HL := Lib.hid hlen
    have H1 := Lib.hid hone
    have hemp : Hid ((w.alloc (.cells #[] 52)).ownsRow w.heap.size 52 4 (.slice (some ⟨w.heap.size, 0, none⟩) 0 0) 0 []) := Lib.hid ⟨rfl, .inr ⟨w.heap.size, 0, #[], rfl, Nat.le_refl _, Deep.blk_alloc_new _ _, Nat.le_refl _, by decide, rfl, rfl⟩⟩
    have hb0 : Hid (Below w.heap.size w (w.alloc (.cells #[] 52))) := Lib.hid ((Below.refl _ _).alloc (Nat.le_refl _) _)
    have hadd : ∀ j, (⟨g, 0, none⟩ : Addr).add j = ⟨g, j, none⟩ := fun j => by simp [Addr.add]; omega
    have HN := Lib.hid (fun j u (h : xs[j]? = some u) => (hb0.out.cell (p := (⟨g, 0, none⟩ : Addr).add j) (by rw [hadd]; exact hlt)).trans (HO.out j u h))
    clear h hcells hlen hone hadd
    have heq : ∀ W, (binOp .eql 31 (.slice (some ⟨g, 0, none⟩) m c) (.slice none 0 0)).run Try.prog W = .ok (.bool false) W := fun W => Lib.run_eql_slice_nil W _ _ _ _ _ _ _ Try.underlying31
    go_enter Try.func25, Try.ntmps25
    go_wp2_with (at_builtin; refine wpList_append_own_at _ rfl _ _ 31 rfl w.heap.size 52 i0 (.agg #[.int .u32 0, .int .u32 0, .int .u32 0, .bool false]) 4 16 Try.underlying31 hi hz0 hz1 hz2 rfl (by decide) (.slice (some ⟨w.heap.size, 0, none⟩) 0 0) 0 [] rfl hemp.out ⟨g, 0, none⟩ m c xs rfl (by rw [HL.out]) HN.out H1.out (by unfold maxLen; omega) (by omega) (by simp) ?_; intro v' w3 hown' hgrow hnil hloc)
    obtain ⟨a3, c3, rfl⟩ := own_slice hown'
    go_wp2
    go_ret
    rw [List.nil_append, Nat.zero_add] at hown'
    refine ⟨a3, c3, by simp, hown', ?_⟩
    exact hb0.out.grown hgrow (by simp) (fun k hk => by simp [Value.ownBlock] at hk; omega)

/-- Find. -/
theorem Find_any {w : World} {a : Option Addr} {n c : Nat} {L : List Bus} (h : BusRow w (.slice a n c) L) (hn : n = L.length) (hw : ∀ b ∈ L, b.lits.length ≤ 64) (s : ByteArray) :
    Calls Try.prog 11 #[.slice a n c, .string s] w fun e w' => match atB L s with
      | none => e = .returned (.tuple #[.slice none 0 0, .bool false]) ∧ Below w.heap.size w w'
      | some j => ∃ (b : Bus) (a2 : Option Addr) (c2 : Nat), L[j]? = some b ∧ e = .returned (.tuple #[.slice a2 b.lits.length c2, .bool true]) ∧ LRow w' a2 b.lits.length c2 b.lits ∧ Below w.heap.size w w' := by
  have hat := Lib.hid (at_any h hn s)
  cases e : atB L s with
  | none =>
    rw [e] at hat
    change Hid (Calls _ _ _ _ fun e w' => e = .returned (.int .i64 (-1)) ∧ _) at hat
    clear h hn
    go_enter Try.func11, Try.ntmps11
    go_wp2_with (go_at_call 42; (with_reducible refine hat.out.mono ?_); rintro e w2 ⟨rfl, hb2⟩)
    go_ret2
    exact ⟨rfl, hb2⟩
  | some j =>
    rw [e] at hat
    change Hid (Calls _ _ _ _ fun e w' => e = .returned (.int .i64 (j : Int)) ∧ _) at hat
    have hj : j < L.length := by
      unfold atB at e
      exact (List.findIdx?_eq_some_iff_getElem.1 e).1
    obtain ⟨g, la, lc, rfl, hg, b0, b1, hr⟩ := h.at hj
    have hcl := Lib.hid (fun w2 (hb : Below w.heap.size w w2) => clone_lit (c := lc) (hr.below hb).row (by have := hw _ (List.getElem_mem hj); omega))
    have hjn : j < n := by omega
    have g0 : decide ((j : Int) < 0) = false := by simp
    simp only []
    have hJ : Hid (L[j]? = some L[j]) := Lib.hid (List.getElem?_eq_getElem hj)
    clear h hr hn
    generalize L[j] = B at *
    generalize hls : B.lits.length = m at *
    have hls := Lib.hid hls
    go_enter Try.func11, Try.ntmps11
    go_wp2_with (first
      | (go_at_call 42; (with_reducible refine hat.out.mono ?_); rintro e w2 ⟨rfl, hb2⟩; have d1 := stepc hb2 hg b1; have hcl2 := Lib.hid (hcl.out _ hb2); clear b0 b1)
      | (go_at_call 43; (with_reducible refine hcl2.out.mono ?_); rintro e w3 ⟨a2, c2, rfl, hm⟩))
    go_ret2
    exact ⟨B, a2, c2, hJ.out, by rw [hls.out]; rfl, by rw [hls.out]; exact hm.lrow, nextw hb2 hm.below⟩
end Go.Proofs.Ytjdebancpgpebaa
