/-
  Package emit: spell; a bus's line.
  Package emit: a register's line.
  The walks of package lit's small functions alone (no answer of the document's own): for the stages above it.
  Graphs of and-gates, plainly: what each call makes of one; what a graph's words are.
-/
import Derived.Test.YtnhpjacodhdpeaaDoorFEKF
import Derived.Test.YtnhpjacodhdpeaaDoorFEKA
import Derived.Test.YtnhpjacodhdpeaaDoorFEKB
import Derived.Outline
section
namespace Go.Proofs.YtnhpjacodhdpeaaDoor
open Go.RowKit Go.Maps Bits
set_option maxRecDepth 100000
set_option linter.unusedVariables false

def strs (xs : List ByteArray) : List Value := xs.map Value.string
theorem strs_one (xs : List ByteArray) : ∀ u ∈ strs xs, u.oneCell' = true := by
  intro u hu; simp [strs] at hu; obtain ⟨b, -, rfl⟩ := hu; rfl
theorem spellS_any {w : World} {b o n c : Nat} (xs : List ByteArray) (hn : xs.length = n) (hc : ∀ (j : Nat) x, xs[j]? = some x → w.cell? ⟨b, o + j, none⟩ = some (.string x)) (hb : b < w.heap.size) (hN : n ≤ 100000) (hcap : n ≤ c)
    (hlen : (Lib.join (xs.map (·.data.toList)) [32]).length ≤ 140737488355328) :
    Calls Tryd.prog 113 #[.slice (some ⟨b, o, none⟩) n c] w fun e w' => e = .returned (.string (spellS xs)) ∧ Below w.heap.size w w' := by
  subst hn
  have hj := Lib.hid (show Calls Tryd.prog 147 #[.slice (some ⟨b, o, none⟩) xs.length c, .string ⟨#[32]⟩] w fun e w' => e = .returned (.string (spellS xs)) ∧ Below w.heap.size w w' from join_any xs ⟨#[32]⟩ hc hb hN hcap hlen)
  clear hc hlen
  generalize xs.length = n at *
  go_enter Tryd.func113, Tryd.ntmps113
  go_wp2_with (go_at_call 147; (with_reducible refine hj.out.mono ?_); rintro e w2 ⟨rfl, hb2⟩)
  go_ret
  exact ⟨rfl, hb2⟩
theorem own_pair (W : World) (B T : Nat) (x y : Value) (hB : B ≤ W.heap.size) : (W.alloc (.cells #[x, y] T)).ownsRow B T 1 (.slice (some ⟨W.heap.size, 0, none⟩) 2 2) 2 [x, y] :=
  ⟨rfl, .inr ⟨W.heap.size, 2, #[x, y], rfl, hB, heap_alloc_new _ _, by decide, by decide, rfl, rfl⟩⟩
theorem tail_len : ∀ (r : List (List UInt8)) (M : Nat), (∀ x ∈ r, x.length ≤ M) → (Lib.joinTail [32] r).length ≤ (M + 1) * r.length := by
  intro r
  induction r with
  | nil => intro M _; simp [Lib.joinTail]
  | cons x r ih =>
    intro M h
    have h1 := ih M (fun y hy => h y (by simp [hy]))
    have h2 := h x (by simp)
    have e : (Lib.joinTail [32] (x :: r)).length = 1 + x.length + (Lib.joinTail [32] r).length := by simp [Lib.joinTail]; omega
    rw [e, List.length_cons, Nat.mul_add]
    omega
theorem join_len (xs : List (List UInt8)) (M : Nat) (h : ∀ x ∈ xs, x.length ≤ M) : (Lib.join xs [32]).length ≤ (M + 1) * xs.length := by
  cases xs with
  | nil => simp [Lib.join_nil]
  | cons x r =>
    have h1 := tail_len r M (fun y hy => h y (by simp [hy]))
    have h2 := h x (by simp)
    rw [Lib.join_cons, List.length_append, List.length_cons, Nat.mul_add]
    omega
theorem decS_len (x : Int) (h0 : 0 ≤ x) (h1 : x < 18446744073709551616) : (decS x).data.toList.length ≤ 1000 := by
  obtain ⟨u, rfl⟩ : ∃ u : Nat, x = u := ⟨x.toNat, by omega⟩
  show ((Lib.decDigits u).toArray.toList).length ≤ 1000
  rw [List.toList_toArray, Lib.decDigits_length]
  by_cases hu : 1 ≤ u
  · have := Lib.numDigits_eq u hu (by omega)
    split at this <;> omega
  · obtain rfl : u = 0 := by omega
    unfold Lib.nDigits
    simp
theorem vals_at {W : World} {B T g n : Nat} {xs : List Value} (h : W.ownsRow B T 1 (.slice (some ⟨g, 0, none⟩) n n) n xs) : ∀ j u, xs[j]? = some u → W.cell? ((⟨g, 0, none⟩ : Addr).add j) = some u := by
  intro j u hu
  have hl : xs.length = n := by have := h.1; omega
  have hj : j < n := by have := (List.getElem?_eq_some_iff.1 hu).1; omega
  rw [show (⟨g, 0, none⟩ : Addr).add j = ⟨g, j, none⟩ by simp [Addr.add]; omega, h.cellAt (j := j) (by omega)]
  exact hu
set_option maxHeartbeats 4000000 in
theorem ofBus_any {w : World} {la : Option Addr} {n lc : Nat} {l : List Int} (s nm : ByteArray) (h : Row .u32 w la n l) (hl : ∀ i, 0 ≤ l.getD i 0 ∧ l.getD i 0 < 4294967296) (hn : n ≤ 90000) (ht : PW w) (hs : s.size ≤ 1000) (hnm : nm.size ≤ 1000) :
    Calls Tryd.prog 114 #[.string s, .agg #[.string nm, .slice la n lc]] w fun e w' => e = .returned (.string (spellS ([s, nm] ++ (List.range n).map (fun i => decS (l.getD i 0))))) ∧ Below w.heap.size w w' := by
  obtain ⟨i0, hin, hz0, hz1, hz2⟩ := info_parts info_strt
  have hbox : ∀ x, x = w.alloc (.cells #[.string nm, .slice la n lc] 184) → Below w.heap.size w x ∧ w.heap.size < x.heap.size ∧ x.cell? ⟨w.heap.size, 0, none⟩ = some (.string nm) ∧ x.cell? ⟨w.heap.size, 1, none⟩ = some (.slice la n lc) := by
    rintro x rfl
    exact ⟨(Below.refl _ _).alloc (Nat.le_refl _) _, by simp, by simp [go_sem], by simp [go_sem]⟩
  have hnum := Lib.hid (fun w3 (hb : Below w.heap.size w w3) => numbers10_any (w := w3) (c := lc) (h.step hb) hl (by omega) (ht.step hb))
  have hl := Lib.hid hl
  clear h ht
  go_enter Tryd.func114, Tryd.ntmps114
  go_upto_region 1 with fail
  obtain ⟨hbx, hlx, c0, c1⟩ := hbox _ rfl
  have hbx := Lib.hid hbx
  clear hbox
  generalize w.alloc (.cells #[.string nm, .slice la n lc] 184) = wa at *
  go_cut [5] (fun s5 wx => ∃ (g cap : Nat), s5 = .slice (some ⟨g, 0, none⟩) (2 + n) cap ∧ Hid (wx.ownsRow w.heap.size 9 1 (.slice (some ⟨g, 0, none⟩) (2 + n) cap) (2 + n) ([.string s, .string nm] ++ (List.range n).map (fun i => Value.string (decS (l.getD i 0))))) ∧ Hid (Below w.heap.size w wx))
  case first =>
    go_region_law (first
      | (go_simp; go_at_call 148; (with_reducible refine (hnum.out _ (by first | exact hbx.out.drew | exact (hbx.out.alloc hbx.out.size _).drew)).mono ?_); rintro e w5 ⟨g5, rfl, ho5, hb5⟩; have hwa5 := (by first | exact nextw (Below.refl wa.heap.size wa).drew hb5 | exact nextw ((Below.refl wa.heap.size wa).alloc (Nat.le_refl _) _).drew hb5 : Below wa.heap.size wa w5); have c0' := stepc hwa5 hlx c0; have c1' := stepc hwa5 hlx c1; have hwa5 := Lib.hid hwa5; have hc5 := Lib.hid (fun (W : World) (hW : Below w5.heap.size w5 W) => vals_at (own_below ho5 hW)); have hB5 := Lib.hid (by first | exact nextw hbx.out.drew hb5 | exact nextw (hbx.out.alloc hbx.out.size _).drew hb5 : Below w.heap.size w w5); (first | (have hp5 := Lib.hid (own_below (own_below (own_pair wa w.heap.size 9 (.string s) (.string nm) hbx.out.size) (Below.refl _ _).drew) hb5)) | (have hp5 := Lib.hid (own_pair w5 w.heap.size 9 (.string s) (.string nm) hB5.out.size))); clear ho5 hb5)
      | (refine step_append_any (by rfl) (.tmp 9) (.tmp 12) _ (by rfl) w.heap.size 9 i0 (.string ByteArray.empty) 1 16 Tryd.underlying221 hin hz0 hz1 hz2 rfl (by decide) _ 2 [.string s, .string nm] (by rfl) hp5.out ⟨g5, 0, none⟩ n _ ((List.range n).map (fun i => Value.string (decS (l.getD i 0)))) (by rfl) (by simp) (hc5.out _ (by first | exact Below.refl _ _ | exact (Below.refl _ _).alloc (Nat.le_refl _) _)) (fun u hu => by simp at hu; obtain ⟨i, -, rfl⟩ := hu; rfl) (by unfold maxLen; omega) (by omega) (by first | exact hB5.out.size | exact (hB5.out.alloc hB5.out.size _).size) ?_; intro v9 w9 own9 hg9; have hB9 := Lib.hid ((by first | exact hB5.out | exact hB5.out.alloc hB5.out.size _ : Below w.heap.size w _).grown hg9 (by first | exact hB5.out.size | exact (hB5.out.alloc hB5.out.size _).size) (fun k e => own_ge hp5.out k e)); obtain ⟨g9, c9, rfl⟩ := own_form own9 (by omega); have own9 := Lib.hid own9; clear hg9))
    all_goals (simp only [List.getElem_toArray, List.getElem_cons_succ, List.getElem_cons_zero, Act.put, List.setIfInBounds_toArray, List.set_cons_succ, List.set_cons_zero])
    all_goals (go_wp2_with fail; go_meet)
    all_goals exact ⟨g9, c9, rfl, own9, hB9⟩
  case rest =>
    obtain ⟨g9, c9, rfl, own9, hB9⟩ := hcut
    obtain ⟨xs, hxs⟩ : ∃ xs, xs = [s, nm] ++ (List.range n).map (fun i => decS (l.getD i 0)) := ⟨_, rfl⟩
    have hsp := Lib.hid (spellS_any (w := wc) (b := g9) (o := 0) (n := 2 + n) (c := c9) xs (by rw [hxs]; simp; omega) (fun j x hx => by
      have hv : ([Value.string s, .string nm] ++ (List.range n).map (fun i => Value.string (decS (l.getD i 0)))) = xs.map Value.string := by rw [hxs]; simp
      have ho := own9.out
      rw [hv] at ho
      have hj : j < 2 + n := by have := (List.getElem?_eq_some_iff.1 hx).1; rw [hxs] at this; simp at this; omega
      rw [Nat.zero_add, ho.cellAt (j := j) (by omega)]
      simp [hx]) (own_lt own9.out) (by omega) (own_cap2 own9.out).1 (by
        have := join_len (xs.map (·.data.toList)) 1000 (by
          intro x hx
          obtain ⟨y, hy, rfl⟩ := List.mem_map.1 hx
          rw [hxs] at hy
          rcases List.mem_append.1 hy with hy | hy
          · simp at hy
            rcases hy with rfl | rfl
            · exact hs
            · exact hnm
          · obtain ⟨i, -, rfl⟩ := List.mem_map.1 hy
            exact decS_len _ (hl.out i).1 (by have := (hl.out i).2; omega))
        rw [List.length_map, show xs.length = 2 + n by rw [hxs]; simp; omega] at this
        have : (1000 + 1) * (2 + n) ≤ 1001 * 100000 := Nat.mul_le_mul_left _ (by omega)
        omega))
    have hxsH := Lib.hid hxs
    clear own9 hxs
    go_wp2_with (go_at_call 113; (with_reducible refine hsp.out.mono ?_); rintro e w8 ⟨rfl, hb8⟩)
    go_ret
    exact ⟨by rw [hxsH.out]; rfl, nextw hB9.out hb8⟩
end Go.Proofs.YtnhpjacodhdpeaaDoor
end

section
namespace Go.Proofs.YtnhpjacodhdpeaaDoor
open Go.RowKit Go.Maps Bits
set_option maxRecDepth 100000
set_option linter.unusedVariables false

theorem own_single (W : World) (B T : Nat) (x : Value) (hB : B ≤ W.heap.size) : (W.alloc (.cells #[x] T)).ownsRow B T 1 (.slice (some ⟨W.heap.size, 0, none⟩) 1 1) 1 [x] :=
  ⟨rfl, .inr ⟨W.heap.size, 1, #[x], rfl, hB, heap_alloc_new _ _, by decide, by decide, rfl, rfl⟩⟩
theorem row_three (W : World) (T : Nat) (x y z : Int) : Row .u32 (W.alloc (.cells #[.int .u32 x, .int .u32 y, .int .u32 z] T)) (some ⟨W.heap.size, 0, none⟩) 3 [x, y, z] :=
  ⟨rfl, by omega, .inr ⟨W.heap.size, 0, rfl, by simp, fun i hi => by
    match i, hi with
    | 0, _ => simp [go_sem]
    | 1, _ => simp [go_sem]
    | 2, _ => simp [go_sem]⟩⟩
theorem row_three' (W : World) (T : Nat) (x y z : Int) (n : Nat) (h : W.heap.size = n) : Row .u32 (W.alloc (.cells #[.int .u32 x, .int .u32 y, .int .u32 z] T)) (some ⟨n, 0, none⟩) 3 [x, y, z] := h ▸ row_three W T x y z
theorem lit_three {x y z : Int} (hx : 0 ≤ x ∧ x < 4294967296) (hy : 0 ≤ y ∧ y < 4294967296) (hz : 0 ≤ z ∧ z < 4294967296) : ∀ i, 0 ≤ [x, y, z].getD i 0 ∧ [x, y, z].getD i 0 < 4294967296 := by
  intro i
  match i with
  | 0 => simpa using hx
  | 1 => simpa using hy
  | 2 => simpa using hz
  | i + 3 => simp
/-- Words that a call has put into one row, spelt. -/
theorem spell_own {w : World} {B g cap n : Nat} (xs : List ByteArray) (ho : w.ownsRow B 9 1 (.slice (some ⟨g, 0, none⟩) n cap) n (xs.map Value.string)) (hn : xs.length = n) (hN : n ≤ 100000) (hx : ∀ x ∈ xs, x.data.toList.length ≤ 1000) :
    Calls Tryd.prog 113 #[.slice (some ⟨g, 0, none⟩) n cap] w fun e w' => e = .returned (.string (spellS xs)) ∧ Below w.heap.size w w' :=
  spellS_any (o := 0) xs hn (fun j x h => by
    have hj : j < n := by have := (List.getElem?_eq_some_iff.1 h).1; omega
    rw [Nat.zero_add, ho.cellAt (j := j) (by omega)]
    simp [h]) (own_lt ho) hN (own_cap2 ho).1 (by
    have := join_len (xs.map (·.data.toList)) 1000 (by
      intro x hx2
      obtain ⟨y, hy, rfl⟩ := List.mem_map.1 hx2
      exact hx y hy)
    rw [List.length_map, hn] at this
    have : (1000 + 1) * n ≤ 1001 * 100000 := Nat.mul_le_mul_left _ hN
    omega)
abbrev sLatch : ByteArray := ⟨#[46, 108, 97, 116, 99, 104]⟩
abbrev sAnd : ByteArray := ⟨#[46, 97, 110, 100]⟩
def sBegin (b : Bool) : ByteArray := if b then ⟨#[49]⟩ else ⟨#[48]⟩
set_option maxHeartbeats 4000000 in
theorem ofReg_any {w : World} (x y z : Int) (b : Bool) (hx : 0 ≤ x ∧ x < 4294967296) (hy : 0 ≤ y ∧ y < 4294967296) (hz : 0 ≤ z ∧ z < 4294967296) (ht : PW w) :
    Calls Tryd.prog 115 #[.agg #[.int .u32 x, .int .u32 y, .int .u32 z, .bool b]] w fun e w' => e = .returned (.string (spellS [sLatch, decS x, decS y, decS z, sBegin b])) ∧ Below w.heap.size w w' := by
  obtain ⟨i0, hin, hz0, hz1, hz2⟩ := info_parts info_strt
  have hnum := Lib.hid (fun (W : World) a (hr : Row .u32 W (some ⟨a, 0, none⟩) 3 [x, y, z]) (hb : Below w.heap.size w W) => numbers10_any (w := W) (c := 3) hr (lit_three hx hy hz) (by omega) (ht.step hb))
  have hsp := Lib.hid (fun (W : World) (B g cap : Nat) (ho : W.ownsRow B 9 1 (.slice (some ⟨g, 0, none⟩) 5 cap) 5 ([sLatch, decS x, decS y, decS z, sBegin b].map Value.string)) => spell_own _ ho rfl (by omega) (by
    intro s hs
    simp at hs
    rcases hs with rfl | rfl | rfl | rfl | rfl
    · decide
    · exact decS_len x hx.1 (by omega)
    · exact decS_len y hy.1 (by omega)
    · exact decS_len z hz.1 (by omega)
    · cases b <;> decide))
  have hbox : ∀ W, W = w.alloc (.cells #[.int .u32 x, .int .u32 y, .int .u32 z, .bool b] 99) → Below w.heap.size w W ∧ w.heap.size < W.heap.size ∧ W.cell? ⟨w.heap.size, 0, none⟩ = some (.int .u32 x) ∧ W.cell? ⟨w.heap.size, 1, none⟩ = some (.int .u32 y) ∧ W.cell? ⟨w.heap.size, 2, none⟩ = some (.int .u32 z) ∧ W.cell? ⟨w.heap.size, 3, none⟩ = some (.bool b) := by
    rintro W rfl
    exact ⟨(Below.refl _ _).alloc (Nat.le_refl _) _, by simp, by simp [go_sem], by simp [go_sem], by simp [go_sem], by simp [go_sem]⟩
  clear ht hx hy hz
  go_enter Tryd.func115, Tryd.ntmps115
  go_upto_region 2 with fail
  obtain ⟨hbx, hlx, c0, c1, c2, c3⟩ := hbox _ rfl
  generalize w.alloc (.cells #[.int .u32 x, .int .u32 y, .int .u32 z, .bool b] 99) = wa at *
  have hbx := Lib.hid hbx
  clear hbox
  cases b
  · have hb1 := Lib.hid ((Below.refl wa.heap.size wa).alloc (Nat.le_refl _) (.cells #[.string sLatch] 9))
    have hl1 := Lib.hid (own_single wa wa.heap.size 9 (.string sLatch) (Nat.le_refl _))
    have d0 := stepc hb1.out hlx c0
    have d1 := stepc hb1.out hlx c1
    have d2 := stepc hb1.out hlx c2
    have hn1 := Lib.hid (hnum.out _ _ (row_three' (wa.alloc (.cells #[.string sLatch] 9)) 94 x y z (wa.heap.size + 1) (by simp)) ((hbx.out.alloc hbx.out.size _).alloc (hbx.out.alloc hbx.out.size _).size _))
    have hb2 := Lib.hid (hb1.out.alloc hb1.out.size (.cells #[.int .u32 x, .int .u32 y, .int .u32 z] 94))
    have hl2 := Lib.hid (own_below hl1.out ((Below.refl _ _).alloc (Nat.le_refl _) (.cells #[.int .u32 x, .int .u32 y, .int .u32 z] 94)))
    clear hb1 hl1 hnum
    go_wp2_with (first
      | (go_at_call 148; go_loud (with_reducible refine hn1.out.mono ?_); rintro e w5 ⟨g5, rfl, ho5, hb5⟩; have hb3 := Lib.hid (nextw hb2.out hb5); have hl3 := Lib.hid (own_below hl2.out hb5); have ho5 := Lib.hid ho5; clear hb5 hb2 hl2 hn1)
      | (at_builtin; refine wpList_append_lies _ rfl _ _ 221 rfl wa.heap.size 9 i0 (.string ByteArray.empty) 1 16 Tryd.underlying221 hin hz0 hz1 hz2 rfl (by decide) _ 1 [.string sLatch] rfl hl3.out ⟨g5, 0, none⟩ 3 _ [.string (decS x), .string (decS y), .string (decS z)] rfl rfl (vals_at ho5.out) (fun u hu => by simp at hu; rcases hu with rfl | rfl | rfl <;> rfl) (by decide) (by unfold maxLen; omega) (by omega) hb3.out.size _ rfl ?_; intro g9 c9 w9 own9 hg9 hat9 hlt9; have hb4 := Lib.hid (hb3.out.grown hg9 hb3.out.size (fun k e => own_ge hl3.out k e)); have hl4 := Lib.hid (own_below own9 ((Below.refl _ _).alloc (Nat.le_refl _) (.cells #[.string (sBegin false)] 9))); have hb5 := Lib.hid (hb4.out.alloc hb4.out.size (.cells #[.string (sBegin false)] 9)); clear hl3 ho5 hb3 own9 hg9 hat9 hlt9 hb4)
      | (at_builtin; refine wpList_append_lies _ rfl _ _ 221 rfl wa.heap.size 9 i0 (.string ByteArray.empty) 1 16 Tryd.underlying221 hin hz0 hz1 hz2 rfl (by decide) _ 4 [.string sLatch, .string (decS x), .string (decS y), .string (decS z)] rfl hl4.out ⟨w9.heap.size, 0, none⟩ 1 1 [.string (sBegin false)] rfl rfl (news1 _ _ _) (fun u hu => by simp at hu; rcases hu with rfl; rfl) (by decide) (by unfold maxLen; omega) (by omega) hb5.out.size _ rfl ?_; intro g6 c6 w6 own6 hg6 hat6 hlt6; have hb6 := Lib.hid (hb5.out.grown hg6 hb5.out.size (fun k e => own_ge hl4.out k e)); have hs6 := Lib.hid (hsp.out w6 wa.heap.size g6 c6 own6); clear hl4 hb5 own6 hg6 hat6 hlt6 hsp)
      | (go_at_call 113; (with_reducible refine hs6.out.mono ?_); rintro e w8 ⟨rfl, hb8⟩))
    go_ret
    exact ⟨rfl, nextw hbx.out (nextw hb6.out hb8)⟩
  · have hb1 := Lib.hid ((Below.refl wa.heap.size wa).alloc (Nat.le_refl _) (.cells #[.string sLatch] 9))
    have hl1 := Lib.hid (own_single wa wa.heap.size 9 (.string sLatch) (Nat.le_refl _))
    have d0 := stepc hb1.out hlx c0
    have d1 := stepc hb1.out hlx c1
    have d2 := stepc hb1.out hlx c2
    have hn1 := Lib.hid (hnum.out _ _ (row_three' (wa.alloc (.cells #[.string sLatch] 9)) 94 x y z (wa.heap.size + 1) (by simp)) ((hbx.out.alloc hbx.out.size _).alloc (hbx.out.alloc hbx.out.size _).size _))
    have hb2 := Lib.hid (hb1.out.alloc hb1.out.size (.cells #[.int .u32 x, .int .u32 y, .int .u32 z] 94))
    have hl2 := Lib.hid (own_below hl1.out ((Below.refl _ _).alloc (Nat.le_refl _) (.cells #[.int .u32 x, .int .u32 y, .int .u32 z] 94)))
    clear hb1 hl1 hnum
    go_wp2_with (first
      | (go_at_call 148; go_loud (with_reducible refine hn1.out.mono ?_); rintro e w5 ⟨g5, rfl, ho5, hb5⟩; have hb3 := Lib.hid (nextw hb2.out hb5); have hl3 := Lib.hid (own_below hl2.out hb5); have ho5 := Lib.hid ho5; clear hb5 hb2 hl2 hn1)
      | (at_builtin; refine wpList_append_lies _ rfl _ _ 221 rfl wa.heap.size 9 i0 (.string ByteArray.empty) 1 16 Tryd.underlying221 hin hz0 hz1 hz2 rfl (by decide) _ 1 [.string sLatch] rfl hl3.out ⟨g5, 0, none⟩ 3 _ [.string (decS x), .string (decS y), .string (decS z)] rfl rfl (vals_at ho5.out) (fun u hu => by simp at hu; rcases hu with rfl | rfl | rfl <;> rfl) (by decide) (by unfold maxLen; omega) (by omega) hb3.out.size _ rfl ?_; intro g9 c9 w9 own9 hg9 hat9 hlt9; have hb4 := Lib.hid (hb3.out.grown hg9 hb3.out.size (fun k e => own_ge hl3.out k e)); have hl4 := Lib.hid (own_below own9 ((Below.refl _ _).alloc (Nat.le_refl _) (.cells #[.string (sBegin true)] 9))); have hb5 := Lib.hid (hb4.out.alloc hb4.out.size (.cells #[.string (sBegin true)] 9)); clear hl3 ho5 hb3 own9 hg9 hat9 hlt9 hb4)
      | (at_builtin; refine wpList_append_lies _ rfl _ _ 221 rfl wa.heap.size 9 i0 (.string ByteArray.empty) 1 16 Tryd.underlying221 hin hz0 hz1 hz2 rfl (by decide) _ 4 [.string sLatch, .string (decS x), .string (decS y), .string (decS z)] rfl hl4.out ⟨w9.heap.size, 0, none⟩ 1 1 [.string (sBegin true)] rfl rfl (news1 _ _ _) (fun u hu => by simp at hu; rcases hu with rfl; rfl) (by decide) (by unfold maxLen; omega) (by omega) hb5.out.size _ rfl ?_; intro g6 c6 w6 own6 hg6 hat6 hlt6; have hb6 := Lib.hid (hb5.out.grown hg6 hb5.out.size (fun k e => own_ge hl4.out k e)); have hs6 := Lib.hid (hsp.out w6 wa.heap.size g6 c6 own6); clear hl4 hb5 own6 hg6 hat6 hlt6 hsp)
      | (go_at_call 113; (with_reducible refine hs6.out.mono ?_); rintro e w8 ⟨rfl, hb8⟩))
    go_ret
    exact ⟨rfl, nextw hbx.out (nextw hb6.out hb8)⟩
end Go.Proofs.YtnhpjacodhdpeaaDoor
end

section
namespace Go.Proofs.YtnhpjacodhdpeaaDoor
open Go.RowKit

theorem not_any (l : Int) (h : IsLit l) (w : World) :
    Calls Tryd.prog 169 #[.int .u32 l] w fun e w' => e = .returned (.int .u32 (notV l)) ∧ w = w' := by
  have hx := Lib.hid (xor_not h)
  obtain ⟨h0, h1⟩ := h
  go_enter Tryd.func169, Tryd.ntmps169
  go_wp2
  go_ret
  exact ⟨ret_int hx.out, rfl⟩
theorem node_any (l : Int) (h : IsLit l) (w : World) :
    Calls Tryd.prog 79 #[.int .u32 l] w fun e w' => e = .returned (.int .i64 (l / 2)) ∧ w = w' := by
  obtain ⟨h0, h1⟩ := h
  go_enter Tryd.func79, Tryd.ntmps79
  go_wp2
  go_ret
  exact ⟨rfl, rfl⟩
theorem turned_any (l : Int) (h : IsLit l) (w : World) :
    Calls Tryd.prog 146 #[.int .u32 l] w fun e w' => e = .returned (.bool (turnV l)) ∧ w = w' := by
  have hx := Lib.hid (and_turn h)
  obtain ⟨h0, h1⟩ := h
  go_enter Tryd.func146, Tryd.ntmps146
  go_wp2
  go_ret
  exact ⟨ret_bool hx.out, rfl⟩
theorem if_any (l : Int) (t : Bool) (h : IsLit l) (w : World) :
    Calls Tryd.prog 153 #[.int .u32 l, .bool t] w fun e w' => e = .returned (.int .u32 (ifV l t)) ∧ w = w' := by
  cases t with
  | true =>
    go_enter Tryd.func153, Tryd.ntmps153
    go_wp2_with (go_at_call 169; refine (not_any _ h _).mono ?_; rintro e w2 ⟨rfl, rfl⟩)
    go_ret
    exact ⟨rfl, rfl⟩
  | false =>
    go_enter Tryd.func153, Tryd.ntmps153
    go_wp2
    go_ret
    exact ⟨rfl, rfl⟩
theorem of_lit {n : Int} (h : 0 ≤ n) (h2 : n ≤ 16777216) : IsLit (2 * n) := by unfold IsLit; omega
theorem of_val {n : Int} (t : Bool) (h : 0 ≤ n) (h2 : n ≤ 16777216) : ifV (2 * n) t = ofV n t ∧ ofE n = 0 := by
  have e : ofBad n = false := by unfold ofBad; simp; omega
  unfold ofV ofE ifV notV
  rw [e]
  cases t <;> simp
theorem of_any (n : Int) (t : Bool) (hn : -9223372036854775808 ≤ n ∧ n ≤ 9223372036854775807) (w : World) :
    Calls Tryd.prog 122 #[.int .i64 n, .bool t] w fun e w' => e = .returned (.tuple #[.int .u32 (ofV n t), .int .i64 (ofE n)]) ∧ w = w' := by
  obtain ⟨hn0, hn1⟩ := hn
  by_cases hb : ofBad n = true
  · have hv : Hid (ofV n t = 0 ∧ ofE n = 1) := by show _ ∧ _; unfold ofV ofE; rw [if_pos hb, if_pos hb]; exact ⟨rfl, rfl⟩
    unfold ofBad at hb
    by_cases h0 : n < 0
    · clear hb
      go_enter Tryd.func122, Tryd.ntmps122
      go_wp2
      go_ret2
      exact ⟨ret_int2 hv.out.1.symm hv.out.2.symm, rfl⟩
    · have h1 : 16777216 < n := by simpa [h0] using hb
      have h00 : decide (n < 0) = false := by simpa using h0
      have h11 : decide (16777216 < n) = true := by simpa using h1
      clear hb h0
      go_enter Tryd.func122, Tryd.ntmps122
      go_wp2
      go_ret2
      exact ⟨ret_int2 hv.out.1.symm hv.out.2.symm, rfl⟩
  · have h0 : 0 ≤ n ∧ n ≤ 16777216 := by unfold ofBad at hb; simp at hb; omega
    obtain ⟨h0, h1⟩ := h0
    have hv := Lib.hid (of_val t h0 h1)
    have h00 : decide (n < 0) = false := by simp; omega
    have h11 : decide (16777216 < n) = false := by simp; omega
    have hl := of_lit h0 h1
    clear hb
    go_enter Tryd.func122, Tryd.ntmps122
    go_wp2_with (go_at_call 153; refine (if_any _ t hl _).mono ?_; rintro e w2 ⟨rfl, rfl⟩)
    go_ret2
    exact ⟨ret_int2 hv.out.1 hv.out.2.symm, rfl⟩

theorem beqf {a b : Int} (h : ¬ a = b) : (a == b) = false := by simpa using h
theorem beqt {a b : Int} (h : a = b) : (a == b) = true := by simpa using h
theorem bnef {a b : Int} (h : a = b) : (a != b) = false := by simpa using h
theorem bnet {a b : Int} (h : ¬ a = b) : (a != b) = true := by simpa using h

/-- Fold's ways: what it comes to on each. -/
theorem fold_0 {a b : Int} (h : a = 0 ∨ b = 0 ∨ a = notV b) : foldV a b = 0 ∧ foldB a b = true := by
  unfold foldV foldB
  rcases h with h | h | h <;> rw [h] <;> simp
theorem fold_1 {b : Int} (h1 : ¬ b = 0) (h2 : ¬ (1 : Int) = notV b) : foldV 1 b = b ∧ foldB 1 b = true := by
  unfold foldV foldB; simp [h1, h2]
theorem fold_2 {a : Int} (h0 : ¬ a = 0) (h2 : ¬ a = notV 1) (h3 : ¬ a = 1) : foldV a 1 = a ∧ foldB a 1 = true := by
  unfold foldV foldB; simp [h0, h2, h3]
theorem fold_3 {a : Int} (h0 : ¬ a = 0) (h3 : ¬ a = 1) : foldV a a = a ∧ foldB a a = true := by
  have h2 : ¬ a = notV a := fun h => notV_ne a h.symm
  unfold foldV foldB; simp [h0, h2, h3]
theorem fold_4 {a b : Int} (h0 : ¬ a = 0) (h1 : ¬ b = 0) (h2 : ¬ a = notV b) (h3 : ¬ a = 1) (h4 : ¬ b = 1) (h5 : ¬ a = b) : foldV a b = 0 ∧ foldB a b = false := by
  unfold foldV foldB; simp [h0, h1, h2, h3, h4, h5]

theorem fold_any (a b : Int) (ha : IsLit a) (hb : IsLit b) (w : World) :
    Calls Tryd.prog 157 #[.int .u32 a, .int .u32 b] w fun e w' => e = .returned (.tuple #[.int .u32 (foldV a b), .bool (foldB a b)]) ∧ w = w' := by
  by_cases h0 : a = 0
  · subst h0
    have hv := Lib.hid (fold_0 (a := 0) (b := b) (.inl rfl))
    go_enter Tryd.func157, Tryd.ntmps157
    go_wp2_with (go_at_call 169; refine (not_any _ hb _).mono ?_; rintro e w2 ⟨rfl, rfl⟩)
    go_ret2
    exact ⟨ret_intb hv.out.1.symm hv.out.2.symm, rfl⟩
  by_cases h1 : b = 0
  · subst h1
    have hv := Lib.hid (fold_0 (a := a) (b := 0) (.inr (.inl rfl)))
    have g0 := beqf h0
    clear h0
    go_enter Tryd.func157, Tryd.ntmps157
    go_wp2_with (go_at_call 169; refine (not_any _ hb _).mono ?_; rintro e w2 ⟨rfl, rfl⟩)
    go_ret2
    exact ⟨ret_intb hv.out.1.symm hv.out.2.symm, rfl⟩
  by_cases h2 : a = notV b
  · have hv := Lib.hid (fold_0 (a := a) (b := b) (.inr (.inr h2)))
    have g0 := beqf h0
    have g1 := beqf h1
    have g2 := beqt h2
    clear h0 h1 h2
    go_enter Tryd.func157, Tryd.ntmps157
    go_wp2_with (go_at_call 169; refine (not_any _ hb _).mono ?_; rintro e w2 ⟨rfl, rfl⟩)
    go_ret2
    exact ⟨ret_intb hv.out.1.symm hv.out.2.symm, rfl⟩
  by_cases h3 : a = 1
  · subst h3
    have hv := Lib.hid (fold_1 h1 h2)
    have g1 := beqf h1
    have g2 := beqf h2
    clear h0 h1 h2
    go_enter Tryd.func157, Tryd.ntmps157
    go_wp2_with (go_at_call 169; refine (not_any _ hb _).mono ?_; rintro e w2 ⟨rfl, rfl⟩)
    go_ret2
    exact ⟨ret_intb hv.out.1.symm hv.out.2.symm, rfl⟩
  by_cases h4 : b = 1
  · subst h4
    have hv := Lib.hid (fold_2 h0 h2 h3)
    have g0 := beqf h0
    have g2 := beqf h2
    have g3 := beqf h3
    clear h0 h1 h2 h3
    go_enter Tryd.func157, Tryd.ntmps157
    go_wp2_with (go_at_call 169; refine (not_any _ hb _).mono ?_; rintro e w2 ⟨rfl, rfl⟩)
    go_ret2
    exact ⟨ret_intb hv.out.1.symm hv.out.2.symm, rfl⟩
  by_cases h5 : a = b
  · subst h5
    have hv := Lib.hid (fold_3 h0 h3)
    have g0 := beqf h0
    have g2 := beqf h2
    have g3 := beqf h3
    clear h0 h1 h2 h3 h4
    go_enter Tryd.func157, Tryd.ntmps157
    go_wp2_with (go_at_call 169; refine (not_any _ hb _).mono ?_; rintro e w2 ⟨rfl, rfl⟩)
    go_ret2
    exact ⟨ret_intb hv.out.1.symm hv.out.2.symm, rfl⟩
  · have hv := Lib.hid (fold_4 h0 h1 h2 h3 h4 h5)
    have g0 := beqf h0
    have g1 := beqf h1
    have g2 := beqf h2
    have g3 := beqf h3
    have g4 := beqf h4
    have g5 := beqf h5
    clear h0 h1 h2 h3 h4 h5
    go_enter Tryd.func157, Tryd.ntmps157
    go_wp2_with (go_at_call 169; refine (not_any _ hb _).mono ?_; rintro e w2 ⟨rfl, rfl⟩)
    go_ret2
    exact ⟨ret_intb hv.out.1.symm hv.out.2.symm, rfl⟩
theorem pair_lt (a b : Int) (h : a < b) (w : World) :
    Calls Tryd.prog 170 #[.int .u32 a, .int .u32 b] w fun e w' => e = .returned (.tuple #[.int .u32 b, .int .u32 a]) ∧ w = w' := by
  have h0 : decide (a < b) = true := by simpa using h
  go_enter Tryd.func170, Tryd.ntmps170
  go_wp2
  go_ret2
  exact ⟨rfl, rfl⟩
theorem pair_ge (a b : Int) (h : b ≤ a) (w : World) :
    Calls Tryd.prog 170 #[.int .u32 a, .int .u32 b] w fun e w' => e = .returned (.tuple #[.int .u32 a, .int .u32 b]) ∧ w = w' := by
  have h0 : decide (a < b) = false := by simpa using h
  go_enter Tryd.func170, Tryd.ntmps170
  go_wp2
  go_ret2
  exact ⟨rfl, rfl⟩

theorem nodeW_in {l : Int} {zs : List Int} {n : Nat} (hl : zs.length = n) (h0 : 0 < l / 2) (h1 : l / 2 < n) : nodeW (l / 2) zs = zs.getD (l / 2).toNat 0 := by
  unfold nodeW; rw [if_pos (by simp; omega)]
theorem nodeW_out {l : Int} {zs : List Int} {n : Nat} (hl : zs.length = n) (h : ¬ (0 < l / 2 ∧ l / 2 < n)) : nodeW (l / 2) zs = 0 := by
  unfold nodeW; rw [if_neg (by simp; omega)]
theorem word_t {l : Int} {zs : List Int} (h : turnV l = true) : wordV l zs = 18446744073709551615 - nodeW (l / 2) zs := by unfold wordV; rw [if_pos h]
theorem word_f {l : Int} {zs : List Int} (h : turnV l = false) : wordV l zs = nodeW (l / 2) zs := by unfold wordV; rw [if_neg (by simp [h])]
theorem mod_turn {l : Int} : (l % 2 == 1) = turnV l := rfl

end Go.Proofs.YtnhpjacodhdpeaaDoor
end

section
namespace Go.Proofs.YtnhpjacodhdpeaaDoor
open Go.RowKit Num

structure Nd where
  gate : Bool
  a : Int
  b : Int
structure Gr where
  fold : Bool
  hash : Bool
  nodes : List Nd
  inputs : List Int

def hiV (a b : Int) : Int := if a < b then b else a
def loV (a b : Int) : Int := if a < b then a else b
def isPair (a b : Int) (n : Nd) : Bool := n.gate && (n.a == a && n.b == b)
def findG (ns : List Nd) (a b : Int) : Option Nat := ns.findIdx? (isPair a b)
def addN (G : Gr) (a b : Int) : Gr := { G with nodes := G.nodes ++ [⟨true, a, b⟩] }
def inputG (G : Gr) : Gr := { G with nodes := G.nodes ++ [⟨false, 0, 0⟩], inputs := G.inputs ++ [(G.nodes.length : Int)] }
def newG (F H : Bool) : Gr := ⟨F, H, [⟨false, 0, 0⟩], []⟩
def seenG (G : Gr) (a b : Int) : Option Nat := if G.hash then findG G.nodes (hiV a b) (loV a b) else none
def gateG (G : Gr) (a b : Int) : Gr × Int := (addN G (hiV a b) (loV a b), 2 * (G.nodes.length : Int))
def andG (G : Gr) (a b : Int) : Gr × Int :=
  if (G.fold && foldB a b) = true then (G, foldV a b) else
  match seenG G a b with
  | some i => (G, 2 * (i : Int))
  | none => gateG G a b
def orG (G : Gr) (a b : Int) : Gr × Int := ((andG G (notV a) (notV b)).1, notV (andG G (notV a) (notV b)).2)
def eitherG (G : Gr) (a b c d : Int) : Gr × Int := orG (andG (andG G a b).1 c d).1 (andG G a b).2 (andG (andG G a b).1 c d).2
def xorG (G : Gr) (a b : Int) : Gr × Int := eitherG G a (notV b) (notV a) b
def muxG (G : Gr) (c a b : Int) : Gr × Int := eitherG G c a (notV c) b
def manyG (T : Gr → Int → Int → Gr × Int) (z : Int) (G : Gr) : List Int → Gr × Int
  | [] => (G, z)
  | x :: r => r.foldl (fun p y => T p.1 p.2 y) (G, x)

structure Wf (G : Gr) : Prop where
  zero : G.nodes[0]? = some ⟨false, 0, 0⟩
  gates : ∀ (i : Nat) (n : Nd), G.nodes[i]? = some n → n.gate = true → IsLit n.a ∧ IsLit n.b ∧ n.b ≤ n.a ∧ n.a / 2 < i
  plain : ∀ (i : Nat) (n : Nd), G.nodes[i]? = some n → n.gate = false → n.a = 0 ∧ n.b = 0
  ins : ∀ (k : Nat) (v : Int), G.inputs[k]? = some v → ∃ i : Nat, v = i ∧ 0 < i ∧ ∃ n, G.nodes[i]? = some n ∧ n.gate = false
  rise : ∀ (j k : Nat) (x y : Int), j < k → G.inputs[j]? = some x → G.inputs[k]? = some y → x < y
  all : ∀ (i : Nat) (n : Nd), 0 < i → G.nodes[i]? = some n → n.gate = false → ∃ k : Nat, G.inputs[k]? = some (i : Int)
  cnt : G.nodes.countP (·.gate) + G.inputs.length + 1 = G.nodes.length

/-- A literal whose node is there. -/
def There (G : Gr) (l : Int) : Prop := IsLit l ∧ l / 2 < G.nodes.length

structure Le (G G' : Gr) : Prop where
  fold : G'.fold = G.fold
  hash : G'.hash = G.hash
  nodes : ∃ t, G'.nodes = G.nodes ++ t
  inputs : ∃ t, G'.inputs = G.inputs ++ t

theorem Le.refl (G : Gr) : Le G G := ⟨rfl, rfl, ⟨[], by simp⟩, ⟨[], by simp⟩⟩
theorem Le.trans {A B C : Gr} (h : Le A B) (k : Le B C) : Le A C := by
  obtain ⟨t, ht⟩ := h.nodes; obtain ⟨u, hu⟩ := k.nodes
  obtain ⟨s, hs⟩ := h.inputs; obtain ⟨r, hr⟩ := k.inputs
  exact ⟨k.fold.trans h.fold, k.hash.trans h.hash, ⟨t ++ u, by rw [hu, ht, List.append_assoc]⟩, ⟨s ++ r, by rw [hr, hs, List.append_assoc]⟩⟩
theorem Le.len {A B : Gr} (h : Le A B) : A.nodes.length ≤ B.nodes.length := by
  obtain ⟨t, ht⟩ := h.nodes; rw [ht]; simp
theorem Le.node {A B : Gr} (h : Le A B) {i : Nat} {n : Nd} (e : A.nodes[i]? = some n) : B.nodes[i]? = some n := by
  obtain ⟨t, ht⟩ := h.nodes
  rw [ht, List.getElem?_append_left (List.getElem?_eq_some_iff.1 e).1]; exact e
theorem Le.input {A B : Gr} (h : Le A B) {i : Nat} {n : Int} (e : A.inputs[i]? = some n) : B.inputs[i]? = some n := by
  obtain ⟨t, ht⟩ := h.inputs
  rw [ht, List.getElem?_append_left (List.getElem?_eq_some_iff.1 e).1]; exact e
theorem Le.there {A B : Gr} (h : Le A B) {l : Int} (e : There A l) : There B l := ⟨e.1, by have := h.len; have := e.2; omega⟩
theorem There.not {G : Gr} {l : Int} (h : There G l) : There G (notV l) := ⟨notV_lit h.1, by rw [notV_half]; exact h.2⟩

theorem hiV_or (a b : Int) : (hiV a b = a ∧ loV a b = b) ∨ (hiV a b = b ∧ loV a b = a) := by unfold hiV loV; split <;> simp
theorem lo_hi (a b : Int) : loV a b ≤ hiV a b := by unfold hiV loV; split <;> omega
theorem There.hi {G : Gr} {a b : Int} (ha : There G a) (hb : There G b) : There G (hiV a b) := by unfold hiV; split <;> assumption
theorem There.lo {G : Gr} {a b : Int} (ha : There G a) (hb : There G b) : There G (loV a b) := by unfold loV; split <;> assumption

theorem get_push {α : Type} {l : List α} {x : α} {i : Nat} {n : α} (h : (l ++ [x])[i]? = some n) : l[i]? = some n ∨ (i = l.length ∧ n = x) := by
  by_cases hi : i < l.length
  · rw [List.getElem?_append_left hi] at h; exact .inl h
  · have hl := (List.getElem?_eq_some_iff.1 h).1
    simp at hl
    have e : i = l.length := by omega
    subst e
    rw [List.getElem?_append_right (Nat.le_refl _)] at h
    simp at h
    exact .inr ⟨rfl, h.symm⟩

theorem addN_le (G : Gr) (a b : Int) : Le G (addN G a b) := ⟨rfl, rfl, ⟨_, rfl⟩, ⟨[], by simp [addN]⟩⟩
theorem addN_len (G : Gr) (a b : Int) : (addN G a b).nodes.length = G.nodes.length + 1 := by simp [addN]
theorem inputG_le (G : Gr) : Le G (inputG G) := ⟨rfl, rfl, ⟨_, rfl⟩, ⟨_, rfl⟩⟩
theorem inputG_len (G : Gr) : (inputG G).nodes.length = G.nodes.length + 1 := by simp [inputG]
theorem Wf.pos {G : Gr} (h : Wf G) : 0 < G.nodes.length := (List.getElem?_eq_some_iff.1 h.zero).1

theorem Wf_new (F H : Bool) : Wf (newG F H) := by
  have e : ∀ i n, (newG F H).nodes[i]? = some n → i = 0 ∧ n = ⟨false, 0, 0⟩ := by
    intro i n h
    match i with
    | 0 => simp [newG] at h; exact ⟨rfl, h.symm⟩
    | i + 1 => simp [newG] at h
  refine ⟨rfl, ?_, ?_, ?_, ?_, ?_, rfl⟩
  · intro i n h g; obtain ⟨-, rfl⟩ := e i n h; cases g
  · intro i n h g; obtain ⟨-, rfl⟩ := e i n h; exact ⟨rfl, rfl⟩
  · intro k v h; simp [newG] at h
  · intro j k x y _ h; simp [newG] at h
  · intro i n h0 h; obtain ⟨rfl, -⟩ := e i n h; omega

theorem Wf_addN {G : Gr} (h : Wf G) {a b : Int} (ha : There G a) (hb : There G b) (hba : b ≤ a) : Wf (addN G a b) := by
  refine ⟨(addN_le G a b).node h.zero, ?_, ?_, ?_, ?_, ?_, ?_⟩
  · intro i n hn g
    rcases get_push hn with hn | ⟨rfl, rfl⟩
    · exact h.gates i n hn g
    · exact ⟨ha.1, hb.1, hba, ha.2⟩
  · intro i n hn g
    rcases get_push hn with hn | ⟨rfl, rfl⟩
    · exact h.plain i n hn g
    · cases g
  · intro k v hk
    obtain ⟨i, e, h0, n, hn, g⟩ := h.ins k v hk
    exact ⟨i, e, h0, n, (addN_le G a b).node hn, g⟩
  · exact h.rise
  · intro i n h0 hn g
    rcases get_push hn with hn | ⟨rfl, rfl⟩
    · exact h.all i n h0 hn g
    · cases g
  · have := h.cnt
    simp [addN]; omega

theorem Wf_inputG {G : Gr} (h : Wf G) : Wf (inputG G) := by
  refine ⟨(inputG_le G).node h.zero, ?_, ?_, ?_, ?_, ?_, ?_⟩
  · intro i n hn g
    rcases get_push hn with hn | ⟨rfl, rfl⟩
    · exact h.gates i n hn g
    · cases g
  · intro i n hn g
    rcases get_push hn with hn | ⟨rfl, rfl⟩
    · exact h.plain i n hn g
    · exact ⟨rfl, rfl⟩
  · intro k v hk
    rcases get_push hk with hk | ⟨rfl, rfl⟩
    · obtain ⟨i, e, h0, n, hn, g⟩ := h.ins k v hk
      exact ⟨i, e, h0, n, (inputG_le G).node hn, g⟩
    · exact ⟨G.nodes.length, rfl, h.pos, ⟨false, 0, 0⟩, by simp [inputG], rfl⟩
  · intro j k x y hjk hx hy
    rcases get_push hy with hy | ⟨rfl, rfl⟩
    · rcases get_push hx with hx | ⟨rfl, rfl⟩
      · exact h.rise j k x y hjk hx hy
      · have := (List.getElem?_eq_some_iff.1 hy).1; omega
    · rcases get_push hx with hx | ⟨rfl, rfl⟩
      · obtain ⟨i, rfl, _, n, hn, _⟩ := h.ins j x hx
        have := (List.getElem?_eq_some_iff.1 hn).1; omega
      · omega
  · intro i n h0 hn g
    rcases get_push hn with hn | ⟨rfl, rfl⟩
    · obtain ⟨k, hk⟩ := h.all i n h0 hn g
      exact ⟨k, (inputG_le G).input hk⟩
    · exact ⟨G.inputs.length, by simp [inputG]⟩
  · have := h.cnt
    simp [inputG]; omega

/-- What was found is there. -/
theorem findG_some {ns : List Nd} {a b : Int} {i : Nat} (h : findG ns a b = some i) : ∃ n, ns[i]? = some n ∧ n.gate = true ∧ n.a = a ∧ n.b = b := by
  unfold findG at h
  obtain ⟨hi, hp, _⟩ := List.findIdx?_eq_some_iff_getElem.1 h
  refine ⟨ns[i], by simp [hi], ?_⟩
  unfold isPair at hp
  simpa using hp
theorem findG_push (ns : List Nd) (n : Nd) (a b : Int) : findG (ns ++ [n]) a b = (findG ns a b).or (if isPair a b n then some ns.length else none) := by
  unfold findG
  rw [List.findIdx?_append]
  cases h : isPair a b n <;> simp [List.findIdx?_cons, h]

/-- What the calls leave. -/
structure Grows (G G' : Gr) (l : Int) (k : Nat) : Prop where
  wf : Wf G'
  le : Le G G'
  there : There G' l
  len : G'.nodes.length ≤ G.nodes.length + k
  ins : G'.inputs = G.inputs

theorem gateG_good {G : Gr} (h : Wf G) {a b : Int} (ha : There G a) (hb : There G b) (hl : G.nodes.length ≤ 10000000) : Grows G (gateG G a b).1 (gateG G a b).2 1 :=
  ⟨Wf_addN h (ha.hi hb) (ha.lo hb) (lo_hi a b), addN_le _ _ _, ⟨⟨by simp only [gateG]; omega, by simp only [gateG]; omega⟩, by rw [show (gateG G a b).1.nodes.length = G.nodes.length + 1 from addN_len _ _ _]; simp only [gateG]; omega⟩, by rw [show (gateG G a b).1.nodes.length = G.nodes.length + 1 from addN_len _ _ _]; omega, rfl⟩
theorem andG_good {G : Gr} (h : Wf G) {a b : Int} (ha : There G a) (hb : There G b) (hl : G.nodes.length ≤ 10000000) : Grows G (andG G a b).1 (andG G a b).2 1 := by
  unfold andG
  split
  · refine ⟨h, Le.refl _, ⟨foldV_lit ha.1 hb.1, ?_⟩, by simp, rfl⟩
    have h0 := h.pos
    have h1 := ha.2
    have h2 := hb.2
    show foldV a b / 2 < (G.nodes.length : Int)
    unfold foldV
    split
    · omega
    · split
      · exact h2
      · split
        · exact h1
        · omega
  · split
    · rename_i i hi
      unfold seenG at hi
      split at hi
      · obtain ⟨n, hn, g, _⟩ := findG_some hi
        have := (List.getElem?_eq_some_iff.1 hn).1
        exact ⟨h, Le.refl _, ⟨⟨by simp only; omega, by simp only; omega⟩, by simp only; omega⟩, by simp, rfl⟩
      · cases hi
    · exact gateG_good h ha hb hl

/-- The words of a graph: what Eval says. -/
structure Val (G : Gr) (ins ws : List Int) : Prop where
  words : Words ws
  len : G.nodes.length ≤ ws.length
  zero : ws.getD 0 0 = 0
  gate : ∀ (i : Nat) (n : Nd), G.nodes[i]? = some n → n.gate = true → ws.getD i 0 = bits .and .u64 (wordV n.a ws) (wordV n.b ws)
  inp : ∀ (k i : Nat), G.inputs[k]? = some (i : Int) → ws.getD i 0 = ins.getD k 0

theorem Val.mono {G G' : Gr} {ins ws : List Int} (h : Le G G') (v : Val G' ins ws) : Val G ins ws :=
  ⟨v.words, Nat.le_trans h.len v.len, v.zero, fun i n hn => v.gate i n (h.node hn), fun k i hk => v.inp k i (h.input hk)⟩

theorem Val.node {G : Gr} {ins ws : List Int} (v : Val G ins ws) {i : Nat} (h0 : 0 < i) (hi : i < G.nodes.length) : wordV (2 * (i : Int)) ws = ws.getD i 0 := by
  have hl := v.len
  unfold wordV turnV nodeW
  rw [show (2 * (i : Int)) % 2 = 0 by omega, show (2 * (i : Int)) / 2 = i by omega]
  simp
  omega

theorem and_swap {G : Gr} {ins ws : List Int} (v : Val G ins ws) (a b : Int) : bits .and .u64 (wordV (hiV a b) ws) (wordV (loV a b) ws) = bits .and .u64 (wordV a ws) (wordV b ws) := by
  have ba := wordV_bd v.words a
  have bb := wordV_bd v.words b
  rcases hiV_or a b with ⟨h1, h2⟩ | ⟨h1, h2⟩
  · rw [h1, h2]
  · rw [h1, h2, and_comm64 bb.1 bb.2 ba.1 ba.2]

theorem gateG_word {G G' : Gr} {ins ws : List Int} (h : Wf G) (a b : Int) (hL : Le (gateG G a b).1 G') (v : Val G' ins ws) : wordV (gateG G a b).2 ws = bits .and .u64 (wordV a ws) (wordV b ws) := by
  have v' := v.mono hL
  have e := v'.gate G.nodes.length ⟨true, hiV a b, loV a b⟩ (by simp [gateG, addN]) rfl
  show wordV (2 * (G.nodes.length : Int)) ws = _
  rw [v'.node h.pos (by rw [show (gateG G a b).1.nodes.length = G.nodes.length + 1 from addN_len _ _ _]; omega), e]
  exact and_swap v a b

theorem andG_word {G G' : Gr} {ins ws : List Int} (h : Wf G) (a b : Int) (hL : Le (andG G a b).1 G') (v : Val G' ins ws) : wordV (andG G a b).2 ws = bits .and .u64 (wordV a ws) (wordV b ws) := by
  unfold andG at hL ⊢
  split
  · rename_i hf
    simp at hf
    exact foldV_word v.words hf.2
  · rename_i hf
    rw [if_neg hf] at hL
    cases hs : seenG G a b with
    | some i =>
      rw [hs] at hL
      have v' := v.mono hL
      unfold seenG at hs
      split at hs
      · obtain ⟨n, hn, g, ea, eb⟩ := findG_some hs
        have e := v'.gate i n hn g
        have hi := (List.getElem?_eq_some_iff.1 hn).1
        have h0 : 0 < i := by
          rcases Nat.eq_zero_or_pos i with e0 | e0
          · subst e0; rw [h.zero] at hn; simp at hn; subst hn; cases g
          · exact e0
        show wordV (2 * (i : Int)) ws = _
        rw [v'.node h0 hi, e, ea, eb]
        exact and_swap v a b
      · cases hs
    | none =>
      rw [hs] at hL
      exact gateG_word h a b hL v

/-- Words agree as far as the graph goes. -/
theorem Val.same {G : Gr} {ins ins' ws ws' : List Int} (h : Wf G) (v : Val G ins ws) (v' : Val G ins' ws') (hin : ∀ k, k < G.inputs.length → ins.getD k 0 = ins'.getD k 0) :
    ∀ i, i < G.nodes.length → ws.getD i 0 = ws'.getD i 0 := by
  intro i
  induction i using Nat.strongRecOn with
  | ind i ih =>
    intro hi
    have hl := v.len
    have hl' := v'.len
    have hn : G.nodes[i]? = some G.nodes[i] := by simp [hi]
    have lits : ∀ l : Int, IsLit l → l / 2 < i → wordV l ws = wordV l ws' := by
      intro l hl0 hl1
      unfold IsLit at hl0
      have e : nodeW (l / 2) ws = nodeW (l / 2) ws' := by
        unfold nodeW
        by_cases h0 : 0 < l / 2
        · have := ih (l / 2).toNat (by omega) (by omega)
          rw [if_pos (by simp; omega), if_pos (by simp; omega), this]
        · rw [if_neg (by simp; omega), if_neg (by simp; omega)]
      unfold wordV; rw [e]
    cases g : G.nodes[i].gate with
    | true =>
      obtain ⟨ha, hb, hba, hai⟩ := h.gates i _ hn g
      rw [v.gate i _ hn g, v'.gate i _ hn g, lits _ ha hai, lits _ hb (by omega)]
    | false =>
      by_cases h0 : i = 0
      · subst h0; rw [v.zero, v'.zero]
      · obtain ⟨k, hk⟩ := h.all i _ (by omega) hn g
        rw [v.inp k i hk, v'.inp k i hk]
        exact hin k (List.getElem?_eq_some_iff.1 hk).1
end Go.Proofs.YtnhpjacodhdpeaaDoor
end
