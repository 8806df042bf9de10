/-
  Reach, Support.
-/
import Derived.Test.YtmljpbbnllfgbaaConeT
namespace Go.Proofs.Ytmljpbbnllfgbaa
open Go.RowKit Go.Maps Num
set_option maxRecDepth 100000

open Classical in
/-- The nodes below i of which P holds, rising. -/
noncomputable def selTo (P : Nat → Prop) (i : Nat) : List Nat := (List.range i).filter (fun j => decide (P j))
open Classical in
theorem selTo_yes {P : Nat → Prop} {i : Nat} (h : P i) : selTo P (i + 1) = selTo P i ++ [i] := by
  unfold selTo; rw [List.range_succ, List.filter_append]; simp [h]
open Classical in
theorem selTo_no {P : Nat → Prop} {i : Nat} (h : ¬ P i) : selTo P (i + 1) = selTo P i := by
  unfold selTo; rw [List.range_succ, List.filter_append]; simp [h]
open Classical in
theorem selTo_len (P : Nat → Prop) (i : Nat) : (selTo P i).length ≤ i := by
  unfold selTo; have := List.length_filter_le (fun j => decide (P j)) (List.range i); simpa using this
open Classical in
theorem selTo_mem {P : Nat → Prop} {i j : Nat} : j ∈ selTo P i ↔ j < i ∧ P j := by unfold selTo; simp
open Classical in
theorem selTo_sorted (P : Nat → Prop) (i : Nat) : (selTo P i).Pairwise (· < ·) := by
  unfold selTo; exact List.Pairwise.filter _ List.pairwise_lt_range
/-- The nodes that one of l leans on; the inputs among them. -/
def ReachP (G : Gr) (l : List Int) (j : Nat) : Prop := 0 < j ∧ Leans G l j
def SupP (G : Gr) (l : List Int) (j : Nat) : Prop := (0 < j ∧ Leans G l j) ∧ (nodeAt G j).gate = false
noncomputable def reachL (G : Gr) (l : List Int) : List Nat := selTo (ReachP G l) G.nodes.length
noncomputable def supL (G : Gr) (l : List Int) : List Nat := selTo (SupP G l) G.nodes.length
def natV (l : List Nat) : List Value := List.map (fun (n : Nat) => Value.int IntKind.i64 (Int.ofNat n)) l

/-- A row of ints behind a box. -/
structure BoxI (base : Nat) (wr : World) (q : Nat) (L : List Nat) : Prop where
  box : ∃ v, wr.heap[q]? = some (.cells #[v] 37 (0, 0)) ∧ wr.ownsRow base 3 1 v L.length (natV L)
theorem BoxI.lt {base : Nat} {wr : World} {q : Nat} {L : List Nat} (h : BoxI base wr q L) : q < wr.heap.size := by
  obtain ⟨v, h1, -⟩ := h.box
  exact (Array.getElem?_eq_some_iff.1 h1).1
theorem BoxI.step {base : Nat} {wr w2 : World} {q : Nat} {L : List Nat} (h : BoxI base wr q L) (hb : Below wr.heap.size wr w2) : BoxI base w2 q L := by
  have hl := h.lt
  obtain ⟨v, h1, h2⟩ := h.box
  exact ⟨v, (hb.block _ hl).trans h1, own_below h2 hb⟩

theorem cell_one_new (w : World) (x : Value) (T : Nat) : ∀ (j : Nat) (u : Value), [x][j]? = some u → (w.alloc (.cells #[x] T)).cell? ((⟨w.heap.size, 0, none⟩ : Addr).add j) = some u := news1 w x T

/-- Behind the append and the store. -/
theorem boxI_next {base : Nat} {wr wa w7 : World} {q : Nat} {v v' : Value} {L : List Nat} {x n' : Nat} (h1 : wr.heap[q]? = some (.cells #[v] 37 (0, 0))) (h2 : wr.ownsRow base 3 1 v L.length (natV L)) (hb : Below wr.heap.size wr wa)
    (hown : w7.ownsRow base 3 1 v' n' (natV L ++ [.int .i64 (x : Int)])) (hn : n' = L.length + 1) (hg : wa.grownBy w7 v.ownBlock) (hbase : base ≤ wr.heap.size) (hq : base ≤ q) :
    BoxI base (w7.setCell ⟨q, 0, none⟩ v') q (L ++ [x]) ∧ Below base wr (w7.setCell ⟨q, 0, none⟩ v') ∧ SameB wr (w7.setCell ⟨q, 0, none⟩ v') := by
  subst hn
  have hql : q < wr.heap.size := (Array.getElem?_eq_some_iff.1 h1).1
  have hne : some q ≠ v.ownBlock := by
    intro e
    obtain ⟨cur, hc⟩ := own_type h2 e.symm
    rw [h1] at hc; simp at hc
  have hq7 : w7.heap[q]? = some (.cells #[v] 37 (0, 0)) := by
    rw [hg.block q (by have := hb.size; omega) hne, hb.block q hql]; exact h1
  have hK : Kept (fun k => k = q ∨ v.ownBlock = some k) wr (w7.setCell ⟨q, 0, none⟩ v') := by
    refine ⟨hg.os.trans hb.os, hg.tape.trans hb.tape, hg.output.trans hb.output, by have := hg.size; have := hb.size; simp [World.setCell]; omega, fun k hk hn => ?_⟩
    rw [Below.heap_setCell _ _ _ _ (fun e => hn (.inl e)), hg.block k (by have := hb.size; omega) (fun e => hn (.inr e.symm)), hb.block k hk]
  refine ⟨⟨v', ?_, ?_⟩, hK.below (fun k hk => ?_) hbase, SameB.kept hK ?_⟩
  · have := box_set (o := 0) hq7 v'
    simpa using this
  · have hv : ∀ k, v'.ownBlock = some k → k ≠ q := by
      intro k hk e
      subst e
      obtain ⟨cur, hc⟩ := own_type hown hk
      rw [hq7] at hc; simp at hc
    have hown2 : w7.ownsRow base 3 1 v' (L ++ [x]).length (natV (L ++ [x])) := by
      rw [List.length_append, List.length_singleton]
      unfold natV at hown ⊢
      rw [List.map_append]; exact hown
    refine ⟨hown2.1, ?_⟩
    rcases hown2.2 with h0 | ⟨g', cap', cur', e, hg', hh, r⟩
    · exact .inl h0
    · subst e
      exact .inr ⟨g', cap', cur', rfl, hg', by rw [Below.heap_setCell _ _ _ _ (hv g' rfl)]; exact hh, r⟩
  · rcases hk with rfl | hk
    · exact hq
    · exact own_ge h2 k hk
  · intro k hk cur hc
    rcases hk with rfl | hk
    · rw [h1] at hc; simp at hc
    · obtain ⟨cur2, hc2⟩ := own_type h2 hk
      rw [hc2] at hc; simp at hc

theorem reach1_any {base : Nat} {wr : World} {q : Nat} {L : List Nat} (h : BoxI base wr q L) (hbase : base ≤ wr.heap.size) (hq : base ≤ q) (hL : L.length ≤ 200000) (x : Nat) (a b : Int) (gt : Bool) :
    Calls Try.prog 51 #[.int .i64 x, .int .u32 a, .int .u32 b, .bool gt, .pointer (some ⟨q, 0, none⟩)] wr fun e w' => e = .returned (.int .i64 0) ∧ BoxI base w' q (L ++ [x]) ∧ Below base wr w' ∧ SameB wr w' := by
  obtain ⟨v, hv1, hv2⟩ := h.box
  obtain ⟨va, vc, rfl⟩ := own_slice hv2
  have hql := h.lt
  obtain ⟨i0, hi, hz0, hz1, hz2⟩ := info_parts info_int
  have hbc : wr.cell? ⟨q, 0, none⟩ = some (.slice va L.length vc) := by simp [World.cell?, hv1]
  have hbf : wr.frozen? ⟨q, 0, none⟩ = false := by simp [World.frozen?, hv1]
  have hne : some q ≠ Value.ownBlock (.slice va L.length vc) := by
    intro e
    obtain ⟨cur, hc⟩ := own_type hv2 e.symm
    rw [hv1] at hc; simp at hc
  have H1 := Lib.hid hv1
  have H2 := Lib.hid hv2
  clear h hv1 hv2
  generalize hn : L.length = n at *
  go_enter Try.func51, Try.ntmps51
  go_wp2_with (at_builtin; refine wpList_append_lies _ rfl _ _ 37 rfl base 3 i0 (.int .i64 0) 1 8 Try.underlying37 hi hz0 hz1 hz2 rfl (by decide) (.slice va n vc) n _ rfl (H2.out.alloc _) ⟨wr.heap.size, 0, none⟩ 1 1 [.int .i64 x] rfl rfl (cell_one_new _ _ _) (by simp [Value.oneCell']) (by decide) (by unfold maxLen; omega) (by omega) (by simp; omega) _ rfl ?_; intro g7 cap1 w7 hown1 hgrow1 hat1 hlt1; obtain ⟨x0, x1⟩ := grow_box hgrow1 (b := q) (o := 0) (v := .slice va n vc) (by go_simp) (by go_simp) hne)
  go_ret
  obtain ⟨r1, r2, r3⟩ := boxI_next (x := x) H1.out (by rw [hn]; exact H2.out) ((Below.refl _ _).alloc (Nat.le_refl _) _) hown1 (by omega) hgrow1 hbase hq
  exact ⟨rfl, r1, r2, r3⟩

theorem sup1_any {base : Nat} {wr : World} {q : Nat} {L : List Nat} (h : BoxI base wr q L) (hbase : base ≤ wr.heap.size) (hq : base ≤ q) (hL : L.length ≤ 200000) (x : Nat) (a b : Int) :
    Calls Try.prog 52 #[.int .i64 x, .int .u32 a, .int .u32 b, .bool false, .pointer (some ⟨q, 0, none⟩)] wr fun e w' => e = .returned (.int .i64 0) ∧ BoxI base w' q (L ++ [x]) ∧ Below base wr w' ∧ SameB wr w' := by
  obtain ⟨v, hv1, hv2⟩ := h.box
  obtain ⟨va, vc, rfl⟩ := own_slice hv2
  have hql := h.lt
  obtain ⟨i0, hi, hz0, hz1, hz2⟩ := info_parts info_int
  have hbc : wr.cell? ⟨q, 0, none⟩ = some (.slice va L.length vc) := by simp [World.cell?, hv1]
  have hbf : wr.frozen? ⟨q, 0, none⟩ = false := by simp [World.frozen?, hv1]
  have hne : some q ≠ Value.ownBlock (.slice va L.length vc) := by
    intro e
    obtain ⟨cur, hc⟩ := own_type hv2 e.symm
    rw [hv1] at hc; simp at hc
  have H1 := Lib.hid hv1
  have H2 := Lib.hid hv2
  clear h hv1 hv2
  generalize hn : L.length = n at *
  go_enter Try.func52, Try.ntmps52
  go_wp2_with (at_builtin; refine wpList_append_lies _ rfl _ _ 37 rfl base 3 i0 (.int .i64 0) 1 8 Try.underlying37 hi hz0 hz1 hz2 rfl (by decide) (.slice va n vc) n _ rfl (H2.out.alloc _) ⟨wr.heap.size, 0, none⟩ 1 1 [.int .i64 x] rfl rfl (cell_one_new _ _ _) (by simp [Value.oneCell']) (by decide) (by unfold maxLen; omega) (by omega) (by simp; omega) _ rfl ?_; intro g7 cap1 w7 hown1 hgrow1 hat1 hlt1; obtain ⟨x0, x1⟩ := grow_box hgrow1 (b := q) (o := 0) (v := .slice va n vc) (by go_simp) (by go_simp) hne)
  go_ret
  obtain ⟨r1, r2, r3⟩ := boxI_next (x := x) H1.out (by rw [hn]; exact H2.out) ((Below.refl _ _).alloc (Nat.le_refl _) _) hown1 (by omega) hgrow1 hbase hq
  exact ⟨rfl, r1, r2, r3⟩
theorem sup0_any {base : Nat} {wr : World} {q : Nat} {L : List Nat} (h : BoxI base wr q L) (x : Nat) (a b : Int) :
    Calls Try.prog 52 #[.int .i64 x, .int .u32 a, .int .u32 b, .bool true, .pointer (some ⟨q, 0, none⟩)] wr fun e w' => e = .returned (.int .i64 0) ∧ BoxI base w' q L ∧ Below base wr w' ∧ SameB wr w' := by
  have H := Lib.hid h
  clear h
  go_enter Try.func52, Try.ntmps52
  go_wp2
  go_ret
  exact ⟨rfl, H.out, Below.refl _ _, SameB.below (Below.refl _ _)⟩

def SelQ (w : World) (P : Nat → Prop) (i : Nat) (wr : World) : Prop := Below w.heap.size w wr ∧ BoxI w.heap.size wr w.heap.size (selTo P i)
theorem reach_met {w : World} {p : Pl} {G : Gr} (hI : Is w p G) (hm : G.nodes.length ≤ 200000) {l : List Int} (hW : Wf G) (hl : AllThere G l) : Met p.b G l 51 #[.pointer (some ⟨w.heap.size, 0, none⟩)] (SelQ w (ReachP G l)) where
  is := fun i wr h => ⟨p, rfl, hI.below h.1⟩
  below := fun i wr w' h hb => ⟨nextw h.1 hb, h.2.step hb⟩
  skip := fun i wr h hn => ⟨h.1, by rw [selTo_no hn]; exact h.2⟩
  call := fun i wr h h0 hL => by
    have hle := selTo_len (ReachP G l) i
    have hi := hL.lt hW hl
    refine (reach1_any h.2 h.1.size (Nat.le_refl _) (by omega) i _ _ _).mono (fun e w' ⟨he, hb, hB, hS⟩ => ⟨he, ⟨h.1.trans hB, ?_⟩, hS⟩)
    rw [selTo_yes ⟨h0, hL⟩]; exact hb
theorem sup_met {w : World} {p : Pl} {G : Gr} (hI : Is w p G) (hm : G.nodes.length ≤ 200000) {l : List Int} (hW : Wf G) (hl : AllThere G l) : Met p.b G l 52 #[.pointer (some ⟨w.heap.size, 0, none⟩)] (SelQ w (SupP G l)) where
  is := fun i wr h => ⟨p, rfl, hI.below h.1⟩
  below := fun i wr w' h hb => ⟨nextw h.1 hb, h.2.step hb⟩
  skip := fun i wr h hn => ⟨h.1, by rw [selTo_no (fun hh => hn hh.1)]; exact h.2⟩
  call := fun i wr h h0 hL => by
    have hle := selTo_len (SupP G l) i
    have hi := hL.lt hW hl
    cases hg : (nodeAt G i).gate with
    | false =>
      refine (sup1_any h.2 h.1.size (Nat.le_refl _) (by omega) i _ _).mono (fun e w' ⟨he, hb, hB, hS⟩ => ⟨he, ⟨h.1.trans hB, ?_⟩, hS⟩)
      rw [selTo_yes ⟨⟨h0, hL⟩, hg⟩]; exact hb
    | true =>
      refine (sup0_any h.2 i _ _).mono (fun e w' ⟨he, hb, hB, hS⟩ => ⟨he, ⟨h.1.trans hB, ?_⟩, hS⟩)
      rw [selTo_no (fun hh => by have h2 := hh.2; rw [hg] at h2; cases h2)]; exact hb

/-- A row of nodes that a call tells. -/
structure Told (w w' : World) (a : Option Addr) (c : Nat) (L : List Nat) : Prop where
  own : w'.ownsRow w.heap.size 3 1 (.slice a L.length c) L.length (natV L)
  below : Below w.heap.size w w'

theorem Reach_any {w : World} {p : Pl} {G : Gr} (hI : Is w p G) (hW : Wf G) (hm : G.nodes.length ≤ 200000) {a : Option Addr} {n c : Nat} {l : List Int} (hs : Row .u32 w a n l) (hl : AllThere G l) :
    Calls Try.prog 18 #[.pointer (some ⟨p.b, 0, none⟩), .slice a n c] w fun e w' => ∃ a2 c2, e = .returned (.tuple #[.slice a2 (reachL G l).length c2, .int .i64 0]) ∧ Told w w' a2 c2 (reachL G l) := by
  have hb1 : Below w.heap.size w (w.alloc (.cells #[.slice none 0 0] 37)) := (Below.refl _ _).alloc (Nat.le_refl _) _
  have hQ0 : SelQ w (ReachP G l) 0 (w.alloc (.cells #[.slice none 0 0] 37)) := ⟨hb1, ⟨.slice none 0 0, Deep.blk_alloc_new _ _, own_nil _ _ _⟩⟩
  have ht := Lib.hid (through_reach w.heap.size (w.alloc (.cells #[.slice none 0 0] 37)) p.b G a n c l _ (reach_met hI hm hW hl) hW hm (hs.step hb1) hl hQ0)
  clear hI hW hs hl hQ0 hb1
  go_enter Try.func18, Try.ntmps18
  go_wp2_with (go_at_call 45; (with_reducible refine ht.out.mono ?_); rintro e w2 ⟨rfl, hB, ⟨v, hv1, hv2⟩⟩; obtain ⟨a2, c2, rfl⟩ := own_slice hv2; have hbc : w2.cell? ⟨w.heap.size, 0, none⟩ = some (.slice a2 (selTo (ReachP G l) G.nodes.length).length c2) := (by simp [World.cell?, hv1]); have hB := Lib.hid hB; have hv2 := Lib.hid hv2; clear hv1)
  go_ret2
  exact ⟨a2, c2, rfl, hv2.out, hB.out⟩
theorem Support_any {w : World} {p : Pl} {G : Gr} (hI : Is w p G) (hW : Wf G) (hm : G.nodes.length ≤ 200000) {a : Option Addr} {n c : Nat} {l : List Int} (hs : Row .u32 w a n l) (hl : AllThere G l) :
    Calls Try.prog 19 #[.pointer (some ⟨p.b, 0, none⟩), .slice a n c] w fun e w' => ∃ a2 c2, e = .returned (.tuple #[.slice a2 (supL G l).length c2, .int .i64 0]) ∧ Told w w' a2 c2 (supL G l) := by
  have hb1 : Below w.heap.size w (w.alloc (.cells #[.slice none 0 0] 37)) := (Below.refl _ _).alloc (Nat.le_refl _) _
  have hQ0 : SelQ w (SupP G l) 0 (w.alloc (.cells #[.slice none 0 0] 37)) := ⟨hb1, ⟨.slice none 0 0, Deep.blk_alloc_new _ _, own_nil _ _ _⟩⟩
  have ht := Lib.hid (through_support w.heap.size (w.alloc (.cells #[.slice none 0 0] 37)) p.b G a n c l _ (sup_met hI hm hW hl) hW hm (hs.step hb1) hl hQ0)
  clear hI hW hs hl hQ0 hb1
  go_enter Try.func19, Try.ntmps19
  go_wp2_with (go_at_call 45; (with_reducible refine ht.out.mono ?_); rintro e w2 ⟨rfl, hB, ⟨v, hv1, hv2⟩⟩; obtain ⟨a2, c2, rfl⟩ := own_slice hv2; have hbc : w2.cell? ⟨w.heap.size, 0, none⟩ = some (.slice a2 (selTo (SupP G l) G.nodes.length).length c2) := (by simp [World.cell?, hv1]); have hB := Lib.hid hB; have hv2 := Lib.hid hv2; clear hv1)
  go_ret2
  exact ⟨a2, c2, rfl, hv2.out, hB.out⟩
end Go.Proofs.Ytmljpbbnllfgbaa
