/-
  Package emit: a register's line.
  Package emit: a gate's line.
  Package emit: the lines of a netlist's text, one by one: the iterator.
-/
import Derived.Test.YtafoohdndlhbnaaGreatDoorFENL
import Derived.Test.YtafoohdndlhbnaaGreatDoorFENC
import Derived.Test.YtafoohdndlhbnaaGreatDoorFENE
import Derived.Test.YtafoohdndlhbnaaGreatDoorFENF
import Derived.Test.YtafoohdndlhbnaaGreatDoorFENG
import Derived.RangeFuncNested
import Derived.RangeFuncBound
import Derived.RangeFuncCalls
import Derived.RangeFuncLeaves
import Derived.Shelf.Abstract
import Derived.Shelf.RegionOpen
import Derived.WalkKit
import Derived.OwnWalkIn
import Derived.TacticsInMore
import Derived.LoopNIn
import Derived.LoopIn
section
namespace Go.Proofs.YtafoohdndlhbnaaGreatDoor
open Go.RowKit Go.Maps Bits
set_option maxRecDepth 100000
set_option linter.unusedVariables false

theorem own_single (W : World) (B T : Nat) (x : Value) (hB : B ≤ W.heap.size) : (W.alloc (.cells #[x] T)).ownsRow B T 1 (.slice (some ⟨W.heap.size, 0, none⟩) 1 1) 1 [x] :=
  ⟨rfl, .inr ⟨W.heap.size, 1, #[x], rfl, hB, heap_alloc_new _ _, by decide, by decide, rfl, rfl⟩⟩
theorem row_three (W : World) (T : Nat) (x y z : Int) : Row .u32 (W.alloc (.cells #[.int .u32 x, .int .u32 y, .int .u32 z] T)) (some ⟨W.heap.size, 0, none⟩) 3 [x, y, z] :=
  ⟨rfl, by omega, .inr ⟨W.heap.size, 0, rfl, by simp, fun i hi => by
    match i, hi with
    | 0, _ => simp [go_sem]
    | 1, _ => simp [go_sem]
    | 2, _ => simp [go_sem]⟩⟩
theorem row_three' (W : World) (T : Nat) (x y z : Int) (n : Nat) (h : W.heap.size = n) : Row .u32 (W.alloc (.cells #[.int .u32 x, .int .u32 y, .int .u32 z] T)) (some ⟨n, 0, none⟩) 3 [x, y, z] := h ▸ row_three W T x y z
theorem lit_three {x y z : Int} (hx : 0 ≤ x ∧ x < 4294967296) (hy : 0 ≤ y ∧ y < 4294967296) (hz : 0 ≤ z ∧ z < 4294967296) : ∀ i, 0 ≤ [x, y, z].getD i 0 ∧ [x, y, z].getD i 0 < 4294967296 := by
  intro i
  match i with
  | 0 => simpa using hx
  | 1 => simpa using hy
  | 2 => simpa using hz
  | i + 3 => simp
/-- Words that a call has put into one row, spelt. -/
theorem spell_own {w : World} {B g cap n : Nat} (xs : List ByteArray) (ho : w.ownsRow B 9 1 (.slice (some ⟨g, 0, none⟩) n cap) n (xs.map Value.string)) (hn : xs.length = n) (hN : n ≤ 100000) (hx : ∀ x ∈ xs, x.data.toList.length ≤ 1000) :
    Calls Tryz.prog 112 #[.slice (some ⟨g, 0, none⟩) n cap] w fun e w' => e = .returned (.string (spellS xs)) ∧ Below w.heap.size w w' :=
  spellS_any (o := 0) xs hn (fun j x h => by
    have hj : j < n := by have := (List.getElem?_eq_some_iff.1 h).1; omega
    rw [Nat.zero_add, ho.cellAt (j := j) (by omega)]
    simp [h]) (own_lt ho) hN (own_cap2 ho).1 (by
    have := join_len (xs.map (·.data.toList)) 1000 (by
      intro x hx2
      obtain ⟨y, hy, rfl⟩ := List.mem_map.1 hx2
      exact hx y hy)
    rw [List.length_map, hn] at this
    have : (1000 + 1) * n ≤ 1001 * 100000 := Nat.mul_le_mul_left _ hN
    omega)
abbrev sLatch : ByteArray := ⟨#[46, 108, 97, 116, 99, 104]⟩
abbrev sAnd : ByteArray := ⟨#[46, 97, 110, 100]⟩
def sBegin (b : Bool) : ByteArray := if b then ⟨#[49]⟩ else ⟨#[48]⟩
set_option maxHeartbeats 4000000 in
theorem ofReg_any {w : World} (x y z : Int) (b : Bool) (hx : 0 ≤ x ∧ x < 4294967296) (hy : 0 ≤ y ∧ y < 4294967296) (hz : 0 ≤ z ∧ z < 4294967296) (ht : PW w) :
    Calls Tryz.prog 114 #[.agg #[.int .u32 x, .int .u32 y, .int .u32 z, .bool b]] w fun e w' => e = .returned (.string (spellS [sLatch, decS x, decS y, decS z, sBegin b])) ∧ Below w.heap.size w w' := by
  obtain ⟨i0, hin, hz0, hz1, hz2⟩ := info_parts info_strt
  have hnum := Lib.hid (fun (W : World) a (hr : Row .u32 W (some ⟨a, 0, none⟩) 3 [x, y, z]) (hb : Below w.heap.size w W) => numbers10_any (w := W) (c := 3) hr (lit_three hx hy hz) (by omega) (ht.step hb))
  have hsp := Lib.hid (fun (W : World) (B g cap : Nat) (ho : W.ownsRow B 9 1 (.slice (some ⟨g, 0, none⟩) 5 cap) 5 ([sLatch, decS x, decS y, decS z, sBegin b].map Value.string)) => spell_own _ ho rfl (by omega) (by
    intro s hs
    simp at hs
    rcases hs with rfl | rfl | rfl | rfl | rfl
    · decide
    · exact decS_len x hx.1 (by omega)
    · exact decS_len y hy.1 (by omega)
    · exact decS_len z hz.1 (by omega)
    · cases b <;> decide))
  have hbox : ∀ W, W = w.alloc (.cells #[.int .u32 x, .int .u32 y, .int .u32 z, .bool b] 68) → Below w.heap.size w W ∧ w.heap.size < W.heap.size ∧ W.cell? ⟨w.heap.size, 0, none⟩ = some (.int .u32 x) ∧ W.cell? ⟨w.heap.size, 1, none⟩ = some (.int .u32 y) ∧ W.cell? ⟨w.heap.size, 2, none⟩ = some (.int .u32 z) ∧ W.cell? ⟨w.heap.size, 3, none⟩ = some (.bool b) := by
    rintro W rfl
    exact ⟨(Below.refl _ _).alloc (Nat.le_refl _) _, by simp, by simp [go_sem], by simp [go_sem], by simp [go_sem], by simp [go_sem]⟩
  clear ht hx hy hz
  go_enter Tryz.func114, Tryz.ntmps114
  go_upto_region 2 with fail
  obtain ⟨hbx, hlx, c0, c1, c2, c3⟩ := hbox _ rfl
  generalize w.alloc (.cells #[.int .u32 x, .int .u32 y, .int .u32 z, .bool b] 68) = wa at *
  have hbx := Lib.hid hbx
  clear hbox
  cases b
  · have hb1 := Lib.hid ((Below.refl wa.heap.size wa).alloc (Nat.le_refl _) (.cells #[.string sLatch] 9))
    have hl1 := Lib.hid (own_single wa wa.heap.size 9 (.string sLatch) (Nat.le_refl _))
    have d0 := stepc hb1.out hlx c0
    have d1 := stepc hb1.out hlx c1
    have d2 := stepc hb1.out hlx c2
    have hn1 := Lib.hid (hnum.out _ _ (row_three' (wa.alloc (.cells #[.string sLatch] 9)) 66 x y z (wa.heap.size + 1) (by simp)) ((hbx.out.alloc hbx.out.size _).alloc (hbx.out.alloc hbx.out.size _).size _))
    have hb2 := Lib.hid (hb1.out.alloc hb1.out.size (.cells #[.int .u32 x, .int .u32 y, .int .u32 z] 66))
    have hl2 := Lib.hid (own_below hl1.out ((Below.refl _ _).alloc (Nat.le_refl _) (.cells #[.int .u32 x, .int .u32 y, .int .u32 z] 66)))
    clear hb1 hl1 hnum
    go_wp2_with (first
      | (go_at_call 187; go_loud (with_reducible refine hn1.out.mono ?_); rintro e w5 ⟨g5, rfl, ho5, hb5⟩; have hb3 := Lib.hid (nextw hb2.out hb5); have hl3 := Lib.hid (own_below hl2.out hb5); have ho5 := Lib.hid ho5; clear hb5 hb2 hl2 hn1)
      | (at_builtin; refine wpList_append_lies _ rfl _ _ 37 rfl wa.heap.size 9 i0 (.string ByteArray.empty) 1 16 Tryz.underlying37 hin hz0 hz1 hz2 rfl (by decide) _ 1 [.string sLatch] rfl hl3.out ⟨g5, 0, none⟩ 3 _ [.string (decS x), .string (decS y), .string (decS z)] rfl rfl (vals_at ho5.out) (fun u hu => by simp at hu; rcases hu with rfl | rfl | rfl <;> rfl) (by decide) (by unfold maxLen; omega) (by omega) hb3.out.size _ rfl ?_; intro g9 c9 w9 own9 hg9 hat9 hlt9; have hb4 := Lib.hid (hb3.out.grown hg9 hb3.out.size (fun k e => own_ge hl3.out k e)); have hl4 := Lib.hid (own_below own9 ((Below.refl _ _).alloc (Nat.le_refl _) (.cells #[.string (sBegin false)] 9))); have hb5 := Lib.hid (hb4.out.alloc hb4.out.size (.cells #[.string (sBegin false)] 9)); clear hl3 ho5 hb3 own9 hg9 hat9 hlt9 hb4)
      | (at_builtin; refine wpList_append_lies _ rfl _ _ 37 rfl wa.heap.size 9 i0 (.string ByteArray.empty) 1 16 Tryz.underlying37 hin hz0 hz1 hz2 rfl (by decide) _ 4 [.string sLatch, .string (decS x), .string (decS y), .string (decS z)] rfl hl4.out ⟨w9.heap.size, 0, none⟩ 1 1 [.string (sBegin false)] rfl rfl (news1 _ _ _) (fun u hu => by simp at hu; rcases hu with rfl; rfl) (by decide) (by unfold maxLen; omega) (by omega) hb5.out.size _ rfl ?_; intro g6 c6 w6 own6 hg6 hat6 hlt6; have hb6 := Lib.hid (hb5.out.grown hg6 hb5.out.size (fun k e => own_ge hl4.out k e)); have hs6 := Lib.hid (hsp.out w6 wa.heap.size g6 c6 own6); clear hl4 hb5 own6 hg6 hat6 hlt6 hsp)
      | (go_at_call 112; (with_reducible refine hs6.out.mono ?_); rintro e w8 ⟨rfl, hb8⟩))
    go_ret
    exact ⟨rfl, nextw hbx.out (nextw hb6.out hb8)⟩
  · have hb1 := Lib.hid ((Below.refl wa.heap.size wa).alloc (Nat.le_refl _) (.cells #[.string sLatch] 9))
    have hl1 := Lib.hid (own_single wa wa.heap.size 9 (.string sLatch) (Nat.le_refl _))
    have d0 := stepc hb1.out hlx c0
    have d1 := stepc hb1.out hlx c1
    have d2 := stepc hb1.out hlx c2
    have hn1 := Lib.hid (hnum.out _ _ (row_three' (wa.alloc (.cells #[.string sLatch] 9)) 66 x y z (wa.heap.size + 1) (by simp)) ((hbx.out.alloc hbx.out.size _).alloc (hbx.out.alloc hbx.out.size _).size _))
    have hb2 := Lib.hid (hb1.out.alloc hb1.out.size (.cells #[.int .u32 x, .int .u32 y, .int .u32 z] 66))
    have hl2 := Lib.hid (own_below hl1.out ((Below.refl _ _).alloc (Nat.le_refl _) (.cells #[.int .u32 x, .int .u32 y, .int .u32 z] 66)))
    clear hb1 hl1 hnum
    go_wp2_with (first
      | (go_at_call 187; go_loud (with_reducible refine hn1.out.mono ?_); rintro e w5 ⟨g5, rfl, ho5, hb5⟩; have hb3 := Lib.hid (nextw hb2.out hb5); have hl3 := Lib.hid (own_below hl2.out hb5); have ho5 := Lib.hid ho5; clear hb5 hb2 hl2 hn1)
      | (at_builtin; refine wpList_append_lies _ rfl _ _ 37 rfl wa.heap.size 9 i0 (.string ByteArray.empty) 1 16 Tryz.underlying37 hin hz0 hz1 hz2 rfl (by decide) _ 1 [.string sLatch] rfl hl3.out ⟨g5, 0, none⟩ 3 _ [.string (decS x), .string (decS y), .string (decS z)] rfl rfl (vals_at ho5.out) (fun u hu => by simp at hu; rcases hu with rfl | rfl | rfl <;> rfl) (by decide) (by unfold maxLen; omega) (by omega) hb3.out.size _ rfl ?_; intro g9 c9 w9 own9 hg9 hat9 hlt9; have hb4 := Lib.hid (hb3.out.grown hg9 hb3.out.size (fun k e => own_ge hl3.out k e)); have hl4 := Lib.hid (own_below own9 ((Below.refl _ _).alloc (Nat.le_refl _) (.cells #[.string (sBegin true)] 9))); have hb5 := Lib.hid (hb4.out.alloc hb4.out.size (.cells #[.string (sBegin true)] 9)); clear hl3 ho5 hb3 own9 hg9 hat9 hlt9 hb4)
      | (at_builtin; refine wpList_append_lies _ rfl _ _ 37 rfl wa.heap.size 9 i0 (.string ByteArray.empty) 1 16 Tryz.underlying37 hin hz0 hz1 hz2 rfl (by decide) _ 4 [.string sLatch, .string (decS x), .string (decS y), .string (decS z)] rfl hl4.out ⟨w9.heap.size, 0, none⟩ 1 1 [.string (sBegin true)] rfl rfl (news1 _ _ _) (fun u hu => by simp at hu; rcases hu with rfl; rfl) (by decide) (by unfold maxLen; omega) (by omega) hb5.out.size _ rfl ?_; intro g6 c6 w6 own6 hg6 hat6 hlt6; have hb6 := Lib.hid (hb5.out.grown hg6 hb5.out.size (fun k e => own_ge hl4.out k e)); have hs6 := Lib.hid (hsp.out w6 wa.heap.size g6 c6 own6); clear hl4 hb5 own6 hg6 hat6 hlt6 hsp)
      | (go_at_call 112; (with_reducible refine hs6.out.mono ?_); rintro e w8 ⟨rfl, hb8⟩))
    go_ret
    exact ⟨rfl, nextw hbx.out (nextw hb6.out hb8)⟩
end Go.Proofs.YtafoohdndlhbnaaGreatDoor
end

section
namespace Go.Proofs.YtafoohdndlhbnaaGreatDoor
open Go.RowKit Go.Maps Bits
set_option maxRecDepth 100000
set_option linter.unusedVariables false

/-- A gate's line, plainly. -/
def gateS (G : Gr) (j : Nat) : ByteArray := spellS [sAnd, decS (2 * (j : Int)), decS (nodeAt G j).a, decS (nodeAt G j).b]
def gateL (G : Gr) (j : Nat) : ByteArray := if (nodeAt G j).gate then gateS G j else ByteArray.empty
set_option maxHeartbeats 4000000 in
theorem ofGate_any {w : World} {q : NPl} {N : Nt} (h : NetIs w q N) (hW : Wf N.g) (hm : N.g.nodes.length ≤ 200000) {j : Nat} (hj : j < N.g.nodes.length) (ht : PW w) :
    Calls Tryz.prog 115 #[.pointer (some ⟨q.b, 0, none⟩), .int .i64 j] w fun e w' => e = .returned (.tuple #[.string (gateL N.g j), .bool (nodeAt N.g j).gate]) ∧ Below w.heap.size w w' := by
  obtain ⟨i0, hin, hz0, hz1, hz2⟩ := info_parts info_strt
  have hgate := Lib.hid (fun (W : World) (hb : Below w.heap.size w W) => Gate_any (h.g.below hb) hW hm hj)
  have c0 : w.cell? ⟨q.b, 0, none⟩ = some (.pointer (some ⟨q.g.b, 0, none⟩)) := by
    rw [cell_of_row w q.b 0 _ _ _ h.box]
    rfl
  have hof := Lib.hid (fun W => of_any (j : Int) false (by omega) W)
  obtain ⟨hv0, hv1⟩ := of_val (n := (j : Int)) false (by omega) (by omega)
  have hv : ofV (j : Int) false = 2 * (j : Int) := by
    rw [← hv0]; unfold ifV; simp
  rw [hv, hv1] at hof
  have hq := h.lt
  unfold gateL gateS
  have hgl : (nodeAt N.g j).gate = true → IsLit (nodeAt N.g j).a ∧ IsLit (nodeAt N.g j).b := by
    intro hg
    have hn : N.g.nodes[j]? = some (nodeAt N.g j) := by
      unfold nodeAt
      simp [List.getD_eq_getElem?_getD, List.getElem?_eq_getElem hj]
    have := hW.gates j _ hn hg
    exact ⟨this.1, this.2.1⟩
  generalize (nodeAt N.g j).gate = ng at *
  generalize (nodeAt N.g j).a = y at *
  generalize (nodeAt N.g j).b = z at *
  have hx : 0 ≤ 2 * (j : Int) ∧ 2 * (j : Int) < 4294967296 := by omega
  generalize 2 * (j : Int) = x at *
  generalize (j : Int) = J at *
  clear hj hW h hv0 hv1 hv
  have hnum := Lib.hid (fun (W : World) a (hx : 0 ≤ x ∧ x < 4294967296) (hy : 0 ≤ y ∧ y < 4294967296) (hz : 0 ≤ z ∧ z < 4294967296) (hr : Row .u32 W (some ⟨a, 0, none⟩) 3 [x, y, z]) (hb : Below w.heap.size w W) => numbers10_any (w := W) (c := 3) hr (lit_three hx hy hz) (by omega) (ht.step hb))
  have hsp := Lib.hid (fun (W : World) (B g cap : Nat) (hx : 0 ≤ x ∧ x < 4294967296) (hy : 0 ≤ y ∧ y < 4294967296) (hz : 0 ≤ z ∧ z < 4294967296) (ho : W.ownsRow B 9 1 (.slice (some ⟨g, 0, none⟩) 4 cap) 4 ([sAnd, decS x, decS y, decS z].map Value.string)) => spell_own _ ho rfl (by omega) (by
    intro s hs
    simp at hs
    rcases hs with rfl | rfl | rfl | rfl
    · decide
    · exact decS_len x hx.1 (by omega)
    · exact decS_len y hy.1 (by omega)
    · exact decS_len z hz.1 (by omega)))
  clear ht hm
  cases ng
  · clear hnum hsp hgl hx
    go_enter Tryz.func115, Tryz.ntmps115
    go_wp2_with (first
      | (go_at_call 30; (with_reducible refine (hgate.out _ (Below.refl _ _)).mono ?_); rintro e w2 ⟨rfl, hb2⟩; have hb2 := Lib.hid hb2)
      | (go_at_call 188; (with_reducible refine (hof.out _).mono ?_); rintro e w3 ⟨rfl, rfl⟩))
    refine bodyPost_ret (v := .tuple #[.string ByteArray.empty, .bool false]) (by simp [results, Tryz.results115, go_sem]; rfl) rfl ⟨rfl, hb2.out⟩
  · obtain ⟨hy, hz⟩ := hgl rfl
    have hnum := Lib.hid (fun (W : World) a => hnum.out W a hx hy hz)
    have hsp := Lib.hid (fun (W : World) B g cap => hsp.out W B g cap hx hy hz)
    clear hgl hx hy hz
    go_enter Tryz.func115, Tryz.ntmps115
    go_upto_region 5 with (first
      | (go_at_call 30; (with_reducible refine (hgate.out _ (Below.refl _ _)).mono ?_); rintro e wa ⟨rfl, hbx⟩; have hbx := Lib.hid hbx)
      | (go_at_call 188; (with_reducible refine (hof.out _).mono ?_); rintro e w3 ⟨rfl, rfl⟩))
    have hb1 := Lib.hid ((Below.refl wa.heap.size wa).alloc (Nat.le_refl _) (.cells #[.string sAnd] 9))
    have hl1 := Lib.hid (own_single wa wa.heap.size 9 (.string sAnd) (Nat.le_refl _))
    have hn1 := Lib.hid (hnum.out _ _ (row_three' (wa.alloc (.cells #[.string sAnd] 9)) 66 x y z (wa.heap.size + 1) (by simp)) ((hbx.out.alloc hbx.out.size _).alloc (hbx.out.alloc hbx.out.size _).size _))
    have hb2 := Lib.hid (hb1.out.alloc hb1.out.size (.cells #[.int .u32 x, .int .u32 y, .int .u32 z] 66))
    have hl2 := Lib.hid (own_below hl1.out ((Below.refl _ _).alloc (Nat.le_refl _) (.cells #[.int .u32 x, .int .u32 y, .int .u32 z] 66)))
    clear hb1 hl1 hnum hgate hof
    go_wp2_with (first
      | (go_at_call 187; (with_reducible refine hn1.out.mono ?_); rintro e w5 ⟨g5, rfl, ho5, hb5⟩; have hb3 := Lib.hid (nextw hb2.out hb5); have hl3 := Lib.hid (own_below hl2.out hb5); have ho5 := Lib.hid ho5; clear hb5 hb2 hl2 hn1)
      | (at_builtin; refine wpList_append_lies _ rfl _ _ 37 rfl wa.heap.size 9 i0 (.string ByteArray.empty) 1 16 Tryz.underlying37 hin hz0 hz1 hz2 rfl (by decide) _ 1 [.string sAnd] rfl hl3.out ⟨g5, 0, none⟩ 3 _ [.string (decS x), .string (decS y), .string (decS z)] rfl rfl (vals_at ho5.out) (fun u hu => by simp at hu; rcases hu with rfl | rfl | rfl <;> rfl) (by decide) (by unfold maxLen; omega) (by omega) hb3.out.size _ rfl ?_; intro g9 c9 w9 own9 hg9 hat9 hlt9; have hb4 := Lib.hid (hb3.out.grown hg9 hb3.out.size (fun k e => own_ge hl3.out k e)); have hs6 := Lib.hid (hsp.out w9 wa.heap.size g9 c9 own9); clear hl3 ho5 hb3 own9 hg9 hat9 hlt9 hsp)
      | (go_at_call 112; (with_reducible refine hs6.out.mono ?_); rintro e w8 ⟨rfl, hb8⟩))
    refine bodyPost_ret (v := .tuple #[.string (spellS [sAnd, decS x, decS y, decS z]), .bool true]) (by simp [results, Tryz.results115, go_sem]) rfl ⟨rfl, nextw hbx.out (nextw hb4.out hb8)⟩
end Go.Proofs.YtafoohdndlhbnaaGreatDoor
end

section
namespace Go.Proofs.YtafoohdndlhbnaaGreatDoor
open Go.RowKit Go.Maps Bits
attribute [local go_sem] Oper.semAt_some
set_option maxRecDepth 100000
set_option linter.unusedVariables false

abbrev sModel : ByteArray := ⟨#[46, 109, 111, 100, 101, 108]⟩
abbrev sInput : ByteArray := ⟨#[46, 105, 110, 112, 117, 116]⟩
abbrev sOutput : ByteArray := ⟨#[46, 111, 117, 116, 112, 117, 116]⟩
abbrev sEnd : ByteArray := ⟨#[46, 101, 110, 100]⟩
def busS (s : ByteArray) (b : Bus) : ByteArray := spellS ([s, b.name] ++ (List.range b.lits.length).map (fun i => decS (b.lits.getD i 0)))
def regS (r : Rg) : ByteArray := spellS [sLatch, decS r.q, decS r.d, decS r.en, sBegin r.init]
def gatesL (G : Gr) (k : Nat) : List ByteArray := ((List.range k).filter (fun j => (nodeAt G j).gate)).map (gateS G)
/-- The lines of a netlist's text. -/
def linesL (N : Nt) : List ByteArray := spellS [sModel, N.name] :: (N.ins.map (busS sInput) ++ (N.regs.map regS ++ (gatesL N.g N.g.nodes.length ++ (N.outs.map (busS sOutput) ++ [spellS [sEnd]]))))
/-- What the lines need. -/
structure EmOk (N : Nt) : Prop where
  wf : Wf N.g
  few : N.g.nodes.length ≤ 200000
  name : N.name.size ≤ 1000
  ni : N.ins.length ≤ 1000000
  nr : N.regs.length ≤ 1000000
  no : N.outs.length ≤ 1000000
  ins : ∀ b ∈ N.ins, b.lits.length ≤ 64 ∧ (∀ i, 0 ≤ b.lits.getD i 0 ∧ b.lits.getD i 0 < 4294967296) ∧ b.name.size ≤ 1000
  outs : ∀ b ∈ N.outs, b.lits.length ≤ 64 ∧ (∀ i, 0 ≤ b.lits.getD i 0 ∧ b.lits.getD i 0 < 4294967296) ∧ b.name.size ≤ 1000
  regs : ∀ r ∈ N.regs, (0 ≤ r.q ∧ r.q < 4294967296) ∧ (0 ≤ r.d ∧ r.d < 4294967296) ∧ (0 ≤ r.en ∧ r.en < 4294967296)
/-- A line is no longer than this. -/
abbrev Ln := { x : ByteArray // x.size ≤ 1000000 }

theorem gatesL_succ (G : Gr) (j : Nat) : gatesL G (j + 1) = gatesL G j ++ (if (nodeAt G j).gate then [gateS G j] else []) := by
  unfold gatesL
  rw [List.range_succ, List.filter_append, List.map_append]
  by_cases h : (nodeAt G j).gate = true
  · simp [h]
  · simp [h]
theorem gatesL_at (G : Gr) {j : Nat} (hg : (nodeAt G j).gate = true) : ∀ n, j < n → (gatesL G n)[(gatesL G j).length]? = some (gateS G j)
  | 0, h => by omega
  | n + 1, h => by
    rw [gatesL_succ]
    by_cases e : j = n
    · subst e
      rw [if_pos hg, List.getElem?_append_right (Nat.le_refl _)]
      simp
    · have ih := gatesL_at G hg n (by omega)
      rw [List.getElem?_append_left (List.getElem?_eq_some_iff.1 ih).1]
      exact ih
theorem linesL_in (N : Nt) {j : Nat} (hj : j < N.ins.length) : (linesL N)[1 + j]? = some (busS sInput N.ins[j]) := by
  unfold linesL
  rw [Nat.add_comm, List.getElem?_cons_succ, List.getElem?_append_left (by simpa using hj)]
  simp [hj]
theorem linesL_reg (N : Nt) {j : Nat} (hj : j < N.regs.length) : (linesL N)[1 + N.ins.length + j]? = some (regS N.regs[j]) := by
  unfold linesL
  rw [show 1 + N.ins.length + j = (N.ins.length + j) + 1 by omega, List.getElem?_cons_succ, List.getElem?_append_right (by simp), List.getElem?_append_left (by simp <;> omega)]
  simp [hj]
theorem linesL_gate (N : Nt) {j : Nat} (hj : j < N.g.nodes.length) (hg : (nodeAt N.g j).gate = true) : (linesL N)[1 + N.ins.length + N.regs.length + (gatesL N.g j).length]? = some (gateS N.g j) := by
  have h := gatesL_at N.g hg _ hj
  have hl := (List.getElem?_eq_some_iff.1 h).1
  unfold linesL
  rw [show 1 + N.ins.length + N.regs.length + (gatesL N.g j).length = (N.ins.length + (N.regs.length + (gatesL N.g j).length)) + 1 by omega, List.getElem?_cons_succ, List.getElem?_append_right (by simp), List.getElem?_append_right (by simp <;> omega), List.getElem?_append_left (by simp <;> omega)]
  rw [← h]
  congr 1
  simp
theorem linesL_out (N : Nt) {j : Nat} (hj : j < N.outs.length) : (linesL N)[1 + N.ins.length + N.regs.length + (gatesL N.g N.g.nodes.length).length + j]? = some (busS sOutput N.outs[j]) := by
  unfold linesL
  rw [show 1 + N.ins.length + N.regs.length + (gatesL N.g N.g.nodes.length).length + j = (N.ins.length + (N.regs.length + ((gatesL N.g N.g.nodes.length).length + j))) + 1 by omega, List.getElem?_cons_succ, List.getElem?_append_right (by simp), List.getElem?_append_right (by simp <;> omega), List.getElem?_append_right (by simp <;> omega), List.getElem?_append_left (by simp <;> omega)]
  simp [hj]
theorem linesL_end (N : Nt) : (linesL N)[1 + N.ins.length + N.regs.length + (gatesL N.g N.g.nodes.length).length + N.outs.length]? = some (spellS [sEnd]) := by
  unfold linesL
  rw [show 1 + N.ins.length + N.regs.length + (gatesL N.g N.g.nodes.length).length + N.outs.length = (N.ins.length + (N.regs.length + ((gatesL N.g N.g.nodes.length).length + N.outs.length))) + 1 by omega, List.getElem?_cons_succ, List.getElem?_append_right (by simp), List.getElem?_append_right (by simp <;> omega), List.getElem?_append_right (by simp <;> omega), List.getElem?_append_right (by simp <;> omega)]
  simp
theorem linesL_len (N : Nt) : (linesL N).length = 1 + N.ins.length + N.regs.length + (gatesL N.g N.g.nodes.length).length + N.outs.length + 1 := by
  unfold linesL
  simp
  omega

theorem busLine_any {w : World} {la : Option Addr} {lc : Nat} (s : ByteArray) (B : Bus) (h : Row .u32 w la B.lits.length B.lits) (hl : ∀ i, 0 ≤ B.lits.getD i 0 ∧ B.lits.getD i 0 < 4294967296) (hn : B.lits.length ≤ 90000) (ht : PW w) (hs : s.size ≤ 1000) (hnm : B.name.size ≤ 1000) :
    Calls Tryz.prog 113 #[.string s, .agg #[.string B.name, .slice la B.lits.length lc]] w fun e w' => e = .returned (.string (busS s B)) ∧ Below w.heap.size w w' :=
  ofBus_any s B.name h hl hn ht hs hnm
theorem regLine_any {w : World} (r : Rg) (h : (0 ≤ r.q ∧ r.q < 4294967296) ∧ (0 ≤ r.d ∧ r.d < 4294967296) ∧ (0 ≤ r.en ∧ r.en < 4294967296)) (ht : PW w) :
    Calls Tryz.prog 114 #[.agg #[.int .u32 r.q, .int .u32 r.d, .int .u32 r.en, .bool r.init]] w fun e w' => e = .returned (.string (regS r)) ∧ Below w.heap.size w w' :=
  ofReg_any r.q r.d r.en r.init h.1 h.2.1 h.2.2 ht
theorem grown_of {w w' : World} (h : Below w.heap.size w w') : w.grownBy w' none := ⟨h.os, h.tape, h.output, h.size, fun k hk _ => h.block k hk⟩
theorem J_below {J : List Ln → World → Prop} {B : Nat} (hJ : AbidesFrom B J) {s : List Ln} {w w' : World} (h : J s w) (hb : Below w.heap.size w w') : J s w' :=
  hJ s w w' none h (grown_of hb) (fun r e => by cases e)

/-- What a round keeps: what lay below a mark, and the cell that holds the netlist. -/
def KpN (n₀ Bn : Nat) (W W' : World) : Prop := Below n₀ W W' ∧ ∀ v, W.cell? ⟨Bn, 0, none⟩ = some v → W'.cell? ⟨Bn, 0, none⟩ = some v
structure BNk (w wr : World) (Bn : Nat) (q : NPl) : Prop where
  b : Below w.heap.size w wr
  lt : Bn < wr.heap.size
  c : wr.cell? ⟨Bn, 0, none⟩ = some (.pointer (some ⟨q.b, 0, none⟩))
theorem BNk.step {w wr w2 : World} {Bn : Nat} {q : NPl} (h : BNk w wr Bn q) (hb : Below wr.heap.size wr w2) : BNk w w2 Bn q := ⟨nextw h.b hb, Nat.lt_of_lt_of_le h.lt hb.size, stepc hb h.lt h.c⟩
theorem BNk.kp {w wr w2 : World} {Bn : Nat} {q : NPl} (h : BNk w wr Bn q) (hk : KpN w.heap.size Bn wr w2) : BNk w w2 Bn q := ⟨h.b.trans hk.1, Nat.lt_of_lt_of_le h.lt hk.1.size, hk.2 _ h.c⟩

set_option maxHeartbeats 4000000 in
theorem lines1_in {w wL : World} {q : NPl} {N : Nt} (h : NetIs w q N) (hok : EmOk N) (ht : PW w) {Bn : Nat} (hN0 : BNk w wL Bn q) (L : List Ln) (hL : L.map (·.1) = linesL N) (n : Nat) (hn : 1 ≤ n) :
    SeqStopsK Fence.wide n Tryz.prog 111 #[.pointer (some ⟨Bn, 0, none⟩)] (fun x : Ln => #[Value.string x.1]) (KpN w.heap.size Bn) (fun ys => ys = L) (fun pre => pre <+: L) L.length wL := fun l J Jx W hW hJ hJx hY h0 => by
  have hY' : Hid (∀ (k : Nat) (s : ByteArray) (W1 : World), (linesL N)[k]? = some s → J (L.take k) W1 → YieldAt Fence.wide (n - 1) Tryz.prog l #[.string s] W1 fun e W' =>
      (e = .returned (.bool true) ∧ J (L.take (k + 1)) W' ∧ KpN w.heap.size Bn W1 W') ∨ (e = .returned (.bool false) ∧ Jx (L.take (k + 1)) W')) := Lib.hid (by
    intro k s W1 hs hj
    rw [← hL, List.getElem?_map] at hs
    cases hx : L[k]? with
    | none => rw [hx] at hs; cases hs
    | some x =>
      rw [hx] at hs
      cases hs
      have hk : k < L.length := (List.getElem?_eq_some_iff.1 hx).1
      have hlen : (L.take k).length < L.length := by rw [List.length_take]; omega
      have e : L.take (k + 1) = L.take k ++ [x] := by rw [List.take_add_one, hx]; rfl
      rw [e]
      exact hY _ x W1 hj hlen)
  clear hY
  have hstep : Hid (∀ (s : List Ln) (W1 W2 : World), J s W1 → Below W1.heap.size W1 W2 → J s W2) := Lib.hid (fun s W1 W2 hj hb => J_below hJ hj hb)
  have h0 := Lib.hid h0
  have hW := Lib.hid (hN0.step hW)
  clear hN0
  obtain ⟨ia, ic, ra, rc, oa, oc, ei, er, eo, c0, c1, c2, c3, c4, -⟩ := h.cells
  have hqb := h.lt
  have hni := hok.ni
  have hnr := hok.nr
  have hno := hok.no
  have hnn := hok.few
  have hs0 := Lib.hid (fun (W1 : World) => spell_own [sModel, N.name] (own_pair W1 W1.heap.size 9 (.string sModel) (.string N.name) (Nat.le_refl _)) rfl (by omega) (by
    intro s hs
    simp at hs
    rcases hs with rfl | rfl
    · decide
    · exact hok.name))
  have H := Lib.hid h
  have HL := Lib.hid hL
  clear h hL hJ hJx
  refine callsIn_of_wp Tryz.func111 rfl trivial ?_ rfl
  simp only [Tryz.ntmps111, List.size_toArray, List.length_cons, List.length_nil, Nat.reduceAdd, Nat.reduceSub, Array.replicate_succ, Array.replicate_zero, List.push_toArray, List.append_toArray, List.nil_append, List.cons_append]
  have d0 := hW.out.c
  have d1 := stepc hW.out.b hqb c1
  have hnil : ∀ W, Sem.run Tryz.prog (binOp .eql 120 (.func (.yield l) #[] #[]) .nilFunc) W = .ok (.bool false) W := fun W => by kernel_rfl
  have hl0 : (linesL N)[0]? = some (spellS [sModel, N.name]) := rfl
  gi_wp2_with (refine ⟨trivial, ?_⟩; gi_at_call 112; refine (callsIn_wide.2 (hs0.out W)).mono ?_; rintro e w2 ⟨rfl, hb2⟩; have hB2 := Lib.hid (nextw ((Below.refl W.heap.size W).alloc (Nat.le_refl _) _) hb2); obtain ⟨fn, tmps, assign, body, hy, hR⟩ := hY'.out 0 _ w2 hl0 (hstep.out _ _ _ h0.out hB2.out); have hR := Lib.hid hR)
  refine hR.out.mono ?_
  rintro e w3 (⟨rfl, hJ3, hk3⟩ | ⟨rfl, hJx3⟩)
  · have hB3 := Lib.hid ((hW.out.step hB2.out).kp hk3)
    have hJ3 := Lib.hid hJ3
    clear d0 d1
    have d0 := hB3.out.c
    have d2 := stepc hB3.out.b hqb c2
    clear hR hy hk3 hb2 hB2 h0 hl0
    gi_wp2
    gi_loopw [30] (fun i wr => ∃ j : Nat, j ≤ N.ins.length ∧ i = .int .i64 j ∧ Hid (J (L.take (1 + j)) wr) ∧ Hid (BNk w wr Bn q)) (fun i _ => N.ins.length - (intOf i).toNat)
    case atStart => exact ⟨0, Nat.zero_le _, rfl, hJ3, hB3⟩
    case round =>
      obtain ⟨j, hj, rfl, hJr, hBr⟩ := hrel
      by_cases hlt : j < N.ins.length
      · have hrow : BusRow w (.slice ia N.ins.length ic) N.ins := ei ▸ H.out.ins
        obtain ⟨g, la, lc, rfl, hg, b0, b1, hr0⟩ := hrow.at hlt
        have x0 := stepc hBr.out.b hg b0
        have x1 := stepc hBr.out.b hg b1
        obtain ⟨k1, k2, k3⟩ := hok.ins _ (List.getElem_mem hlt)
        have hbus := Lib.hid (fun W1 (hb : Below w.heap.size w W1) => busLine_any (lc := lc) sInput N.ins[j] (hr0.row.step hb) k2 (by omega) (ht.step hb) (by decide) k3)
        have hyj := Lib.hid (fun W1 => hY'.out (1 + j) (busS sInput N.ins[j]) W1 (linesL_in N hlt))
        clear b0 b1 hr0 hrow k1 k2 k3
        obtain ⟨B, hBd⟩ : ∃ B, B = N.ins[j] := ⟨_, rfl⟩
        rw [← hBd] at x0 x1 hbus hyj
        clear hBd
        generalize busS sInput B = S at *
        generalize B.name = bn at *
        generalize B.lits.length = bk at *
        gi_wp2_with (refine ⟨trivial, ?_⟩; gi_at_call 113; refine (callsIn_wide.2 (hbus.out _ (hBr.out.b.alloc hBr.out.b.size _))).mono ?_; rintro e w2 ⟨rfl, hb2⟩; have hB2 := Lib.hid (nextw ((Below.refl wr.heap.size wr).alloc (Nat.le_refl _) _) hb2); obtain ⟨fn, tmps, assign, body, hy, hR⟩ := hyj.out w2 (hstep.out _ _ _ hJr.out hB2.out); have hR := Lib.hid hR)
        refine hR.out.mono ?_
        rintro e w3 (⟨rfl, hJ3, hk3⟩ | ⟨rfl, hJx3⟩)
        · have hB3 := Lib.hid ((hBr.out.step hB2.out).kp hk3)
          have hJ3 := Lib.hid hJ3
          clear hR hk3 hB2 hbus hyj x0 x1
          gi_wp2
          go_roundw
          case rel => exact ⟨j + 1, by omega, by go_num, hJ3, hB3⟩
          case measure => simp [intOf]; omega
        · gi_wp2
          refine bodyPost_ret (results_none rfl _ _ _) rfl ?_
          exact ⟨⟨_, rfl⟩, .inr ⟨_, List.take_prefix _ _, hJx3⟩⟩
      · obtain rfl : j = N.ins.length := by omega
        have d0 := hBr.out.c
        have d3 := stepc hBr.out.b hqb c3
        gi_wp2
        gi_loopw [45] (fun i wr => ∃ j : Nat, j ≤ N.regs.length ∧ i = .int .i64 j ∧ Hid (J (L.take (1 + N.ins.length + j)) wr) ∧ Hid (BNk w wr Bn q)) (fun i _ => N.regs.length - (intOf i).toNat)
        case atStart => exact ⟨0, Nat.zero_le _, rfl, hJr, hBr⟩
        case round =>
          clear hJr hBr d0 d3
          obtain ⟨j, hj, rfl, hJr, hBr⟩ := hrel
          by_cases hlt : j < N.regs.length
          · have hrow : RegRow w (.slice ra N.regs.length rc) N.regs := er ▸ H.out.regs
            obtain ⟨g, rfl, hg, b0, b1, b2, b3⟩ := hrow.at hlt
            have x0 := stepc hBr.out.b hg b0
            have x1 := stepc hBr.out.b hg b1
            have x2 := stepc hBr.out.b hg b2
            have x3 := stepc hBr.out.b hg b3
            have hreg := Lib.hid (fun W1 (hb : Below w.heap.size w W1) => regLine_any N.regs[j] (hok.regs _ (List.getElem_mem hlt)) (ht.step hb))
            have hyj := Lib.hid (fun W1 => hY'.out (1 + N.ins.length + j) (regS N.regs[j]) W1 (linesL_reg N hlt))
            clear b0 b1 b2 b3 hrow
            obtain ⟨B, hBd⟩ : ∃ B, B = N.regs[j] := ⟨_, rfl⟩
            rw [← hBd] at x0 x1 x2 x3 hreg hyj
            clear hBd
            generalize regS B = S at *
            generalize B.q = rq at *
            generalize B.d = rd at *
            generalize B.en = re at *
            generalize B.init = ri at *
            gi_wp2_with (refine ⟨trivial, ?_⟩; gi_at_call 114; refine (callsIn_wide.2 (hreg.out _ (hBr.out.b.alloc hBr.out.b.size _))).mono ?_; rintro e w2 ⟨rfl, hb2⟩; have hB2 := Lib.hid (nextw ((Below.refl wr.heap.size wr).alloc (Nat.le_refl _) _) hb2); obtain ⟨fn, tmps, assign, body, hy, hR⟩ := hyj.out w2 (hstep.out _ _ _ hJr.out hB2.out); have hR := Lib.hid hR)
            refine hR.out.mono ?_
            rintro e w3 (⟨rfl, hJ3, hk3⟩ | ⟨rfl, hJx3⟩)
            · have hB3 := Lib.hid ((hBr.out.step hB2.out).kp hk3)
              have hJ3 := Lib.hid hJ3
              clear hR hk3 hB2 hreg hyj x0 x1 x2 x3
              gi_wp2
              go_roundw
              case rel => exact ⟨j + 1, by omega, by go_num, hJ3, hB3⟩
              case measure => simp [intOf]; omega
            · gi_wp2
              refine bodyPost_ret (results_none rfl _ _ _) rfl ?_
              exact ⟨⟨_, rfl⟩, .inr ⟨_, List.take_prefix _ _, hJx3⟩⟩
          · obtain rfl : j = N.regs.length := by omega
            have d0 := hBr.out.c
            have d4 := stepc hBr.out.b hqb c0
            have hnod := Lib.hid (nodes_any (H.out.below hBr.out.b).g.lay hok.wf.pos)
            gi_wp2_with (refine ⟨trivial, ?_⟩; gi_at_call 21; refine (callsIn_wide.2 hnod.out).mono ?_; rintro e w2 ⟨rfl, rfl⟩)
            clear hnod
            gi_loopw [60] (fun i wr => ∃ j : Nat, j ≤ N.g.nodes.length ∧ i = .int .i64 j ∧ Hid (J (L.take (1 + N.ins.length + N.regs.length + (gatesL N.g j).length)) wr) ∧ Hid (BNk w wr Bn q)) (fun i _ => N.g.nodes.length - (intOf i).toNat)
            case atStart => exact ⟨0, Nat.zero_le _, rfl, hJr, hBr⟩
            case round =>
              clear hJr hBr d0 d4
              obtain ⟨j, hj, rfl, hJr, hBr⟩ := hrel
              by_cases hlt : j < N.g.nodes.length
              · have d0 := hBr.out.c
                have hgt := Lib.hid (fun W1 (hb : Below w.heap.size w W1) => ofGate_any (H.out.below hb) hok.wf hok.few hlt (ht.step hb))
                have hgs := gatesL_succ N.g j
                by_cases hgk : (nodeAt N.g j).gate = true
                · have hyj := Lib.hid (fun W1 => hY'.out _ (gateS N.g j) W1 (linesL_gate N hlt hgk))
                  unfold gateL at hgt
                  rw [hgk] at hgt
                  rw [if_pos rfl] at hgt
                  rw [if_pos hgk] at hgs
                  have hgs := Lib.hid (congrArg List.length hgs)
                  clear hgk
                  generalize gateS N.g j = S at *
                  gi_wp2_with (refine ⟨trivial, ?_⟩; gi_at_call 115; refine (callsIn_wide.2 (hgt.out _ hBr.out.b)).mono ?_; rintro e w2 ⟨rfl, hb2⟩; have hB2 := Lib.hid hb2; obtain ⟨fn, tmps, assign, body, hy, hR⟩ := hyj.out w2 (hstep.out _ _ _ hJr.out hB2.out); have hR := Lib.hid hR)
                  refine hR.out.mono ?_
                  rintro e w3 (⟨rfl, hJ3, hk3⟩ | ⟨rfl, hJx3⟩)
                  · have hB3 := Lib.hid ((hBr.out.step hB2.out).kp hk3)
                    have hJ3 := Lib.hid hJ3
                    clear hR hk3 hB2 hgt hyj
                    gi_wp2
                    go_roundw
                    case rel => exact ⟨j + 1, by omega, by go_num, by rw [hgs.out]; simp only [List.length_append, List.length_singleton, ← Nat.add_assoc]; exact hJ3, hB3⟩
                    case measure => simp [intOf]; omega
                  · gi_wp2
                    refine bodyPost_ret (results_none rfl _ _ _) rfl ?_
                    exact ⟨⟨_, rfl⟩, .inr ⟨_, List.take_prefix _ _, hJx3⟩⟩
                · have hgk : (nodeAt N.g j).gate = false := by simpa using hgk
                  unfold gateL at hgt
                  rw [hgk] at hgt
                  rw [if_neg (by simp)] at hgt
                  rw [hgk] at hgs
                  rw [if_neg (by simp), List.append_nil] at hgs
                  have hgs := Lib.hid hgs
                  clear hgk
                  gi_wp2_with (refine ⟨trivial, ?_⟩; gi_at_call 115; refine (callsIn_wide.2 (hgt.out _ hBr.out.b)).mono ?_; rintro e w2 ⟨rfl, hb2⟩; have hB2 := Lib.hid hb2)
                  refine ⟨fun _ h => (by cases h), ?_⟩
                  gi_wp2
                  go_roundw
                  case rel => exact ⟨j + 1, by omega, by go_num, by rw [hgs.out]; exact Lib.hid (hstep.out _ _ _ hJr.out hB2.out), Lib.hid (hBr.out.step hB2.out)⟩
                  case measure => simp [intOf]; omega
              · obtain rfl : j = N.g.nodes.length := by omega
                have d0 := hBr.out.c
                have d4 := stepc hBr.out.b hqb c4
                gi_wp2
                obtain ⟨M, hM⟩ : ∃ M, M = 1 + N.ins.length + N.regs.length + (gatesL N.g N.g.nodes.length).length := ⟨_, rfl⟩
                have hJr : Hid (J (L.take M) wr) := by rw [hM]; exact hJr
                gi_loopw [82] (fun i wr => ∃ j : Nat, j ≤ N.outs.length ∧ i = .int .i64 j ∧ Hid (J (L.take (M + j)) wr) ∧ Hid (BNk w wr Bn q)) (fun i _ => N.outs.length - (intOf i).toNat)
                case atStart => exact ⟨0, Nat.zero_le _, rfl, hJr, hBr⟩
                case round =>
                  clear hJr hBr d0 d4
                  obtain ⟨j, hj, rfl, hJr, hBr⟩ := hrel
                  by_cases hlt : j < N.outs.length
                  · have hrow : BusRow w (.slice oa N.outs.length oc) N.outs := eo ▸ H.out.outs
                    obtain ⟨g, la, lc, rfl, hg, b0, b1, hr0⟩ := hrow.at hlt
                    have x0 := stepc hBr.out.b hg b0
                    have x1 := stepc hBr.out.b hg b1
                    obtain ⟨k1, k2, k3⟩ := hok.outs _ (List.getElem_mem hlt)
                    have hbus := Lib.hid (fun W1 (hb : Below w.heap.size w W1) => busLine_any (lc := lc) sOutput N.outs[j] (hr0.row.step hb) k2 (by omega) (ht.step hb) (by decide) k3)
                    have hyj := Lib.hid (fun W1 => hY'.out (M + j) (busS sOutput N.outs[j]) W1 (by rw [hM]; exact linesL_out N hlt))
                    clear b0 b1 hr0 hrow k1 k2 k3
                    obtain ⟨B, hBd⟩ : ∃ B, B = N.outs[j] := ⟨_, rfl⟩
                    rw [← hBd] at x0 x1 hbus hyj
                    clear hBd
                    generalize busS sOutput B = S at *
                    generalize B.name = bn at *
                    generalize B.lits.length = bk at *
                    gi_wp2_with (refine ⟨trivial, ?_⟩; gi_at_call 113; refine (callsIn_wide.2 (hbus.out _ (hBr.out.b.alloc hBr.out.b.size _))).mono ?_; rintro e w2 ⟨rfl, hb2⟩; have hB2 := Lib.hid (nextw ((Below.refl wr.heap.size wr).alloc (Nat.le_refl _) _) hb2); obtain ⟨fn, tmps, assign, body, hy, hR⟩ := hyj.out w2 (hstep.out _ _ _ hJr.out hB2.out); have hR := Lib.hid hR)
                    refine hR.out.mono ?_
                    rintro e w3 (⟨rfl, hJ3, hk3⟩ | ⟨rfl, hJx3⟩)
                    · have hB3 := Lib.hid ((hBr.out.step hB2.out).kp hk3)
                      have hJ3 := Lib.hid hJ3
                      clear hR hk3 hB2 hbus hyj x0 x1
                      gi_wp2
                      go_roundw
                      case rel => exact ⟨j + 1, by omega, by go_num, hJ3, hB3⟩
                      case measure => simp [intOf]; omega
                    · gi_wp2
                      refine bodyPost_ret (results_none rfl _ _ _) rfl ?_
                      exact ⟨⟨_, rfl⟩, .inr ⟨_, List.take_prefix _ _, hJx3⟩⟩
                  · obtain rfl : j = N.outs.length := by omega
                    have hse := Lib.hid (spell_own [sEnd] (own_single wr wr.heap.size 9 (.string sEnd) (Nat.le_refl _)) rfl (by omega) (by
                      intro s hs
                      simp at hs
                      rcases hs with rfl
                      decide))
                    have hye := Lib.hid (fun W1 => hY'.out (M + N.outs.length) (spellS [sEnd]) W1 (by rw [hM]; exact linesL_end N))
                    have hall : Hid (L.take (M + N.outs.length + 1) = L) := Lib.hid (by
                      apply List.take_of_length_le
                      have := congrArg List.length HL.out
                      rw [List.length_map, linesL_len, ← hM] at this
                      omega)
                    gi_wp2_with (refine ⟨trivial, ?_⟩; gi_at_call 112; refine (callsIn_wide.2 hse.out).mono ?_; rintro e w2 ⟨rfl, hb2⟩; have hB2 := Lib.hid (nextw ((Below.refl wr.heap.size wr).alloc (Nat.le_refl _) _) hb2); obtain ⟨fn, tmps, assign, body, hy, hR⟩ := hye.out w2 (hstep.out _ _ _ hJr.out hB2.out); have hR := Lib.hid hR)
                    refine hR.out.mono ?_
                    rintro e w3 (⟨rfl, hJ3, hk3⟩ | ⟨rfl, hJx3⟩)
                    · gi_wp2
                      go_end0
                      exact ⟨⟨_, rfl⟩, .inl ⟨_, hall.out, hJ3⟩⟩
                    · gi_wp2
                      go_end0
                      exact ⟨⟨_, rfl⟩, .inr ⟨_, List.take_prefix _ _, hJx3⟩⟩
  · gi_wp2
    refine bodyPost_ret (results_none rfl _ _ _) rfl ?_
    exact ⟨⟨_, rfl⟩, .inr ⟨_, List.take_prefix _ _, hJx3⟩⟩
end Go.Proofs.YtafoohdndlhbnaaGreatDoor
end
