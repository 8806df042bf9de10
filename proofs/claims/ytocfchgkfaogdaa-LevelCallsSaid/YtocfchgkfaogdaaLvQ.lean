/-
  The queue: a number more at its end, the last one taken; down; the heap's own calls.
-/
import Derived.Test.YtocfchgkfaogdaaLvM
import Derived.Deep.RegionLaw
import Derived.Deep.Heap
namespace Go.Proofs.Ytocfchgkfaogdaa
open Go.RowKit
set_option maxRecDepth 100000

theorem grow_box {wa w1 : World} {row : Option Nat} (hg : wa.grownBy w1 row) {b o : Nat} {v : Value} (hc : wa.cell? ⟨b, o, none⟩ = some v) (hf : wa.frozen? ⟨b, o, none⟩ = false) (hne : some b ≠ row) :
    w1.cell? ⟨b, o, none⟩ = some v ∧ w1.frozen? ⟨b, o, none⟩ = false :=
  ⟨hg.cell hc hne, (World.frozen?_of_block (hg.block b (World.block_lt_of_cell? wa _ hc) hne)).trans hf⟩
theorem news_one {w : World} {b : Nat} {x : Value} (h0 : w.cell? ⟨b, 0, none⟩ = some x) : ∀ (j : Nat) (u : Value), [x][j]? = some u → w.cell? ((⟨b, 0, none⟩ : Addr).add j) = some u := by
  intro j u h
  match j with
  | 0 => simp at h; subst h; simpa [Addr.add] using h0
  | j + 1 => simp at h
theorem info_int : (Try.prog.info? 3).map (fun i => (i.zero, i.size, i.bytes)) = some (some (.int .i64 0), 1, 8) := by kernel_rfl

theorem box_set {w : World} {q T : Nat} {v : Value} (u : Value) (h : w.heap[q]? = some (.cells #[v] T (0, 0))) : (w.setCell ⟨q, 0, none⟩ u).heap[q]? = some (.cells #[u] T (0, 0)) := by
  obtain ⟨hlt, hk⟩ := Array.getElem?_eq_some_iff.1 h
  show (w.heap.modify q _)[q]? = _
  rw [Array.getElem?_eq_getElem (by rw [Array.size_modify]; exact hlt), Array.getElem_modify_self, hk]
  rfl
theorem qpushed {q n g1 cap1 : Nat} {v : Value} {l : List Int} {x : Int} {w w2 w1 : World} (h : QIs w q v l) (hl : l.length = n) (hb : Below w.heap.size w w2) (hs : w.heap.size ≤ w2.heap.size)
    (hown : w1.ownsRow 0 3 1 (.slice (some ⟨g1, 0, none⟩) (n + 1) cap1) (n + 1) (ints l ++ [.int .i64 x])) (hg : w2.grownBy w1 v.ownBlock) (hat : v.ownBlock = some g1 ∨ g1 = w2.heap.size) :
    QStep q v w (.slice (some ⟨g1, 0, none⟩) (n + 1) cap1) (w1.setCell ⟨q, 0, none⟩ (.slice (some ⟨g1, 0, none⟩) (n + 1) cap1)) (l ++ [x]) := by
  have hlt := h.lt
  have hq1 : w1.heap[q]? = some (.cells #[v] 71 (0, 0)) := (hg.block q (by omega) (fun e => h.ne e.symm rfl)).trans ((hb.block q hlt).trans h.box)
  have hne : g1 ≠ q := by
    rcases hat with e | e
    · exact fun e2 => h.ne e (by rw [e2])
    · omega
  refine ⟨⟨box_set _ hq1, ?_⟩, ⟨hg.os.trans hb.os, hg.tape.trans hb.tape, hg.output.trans hb.output, by simp [World.setCell]; exact Nat.le_trans hs hg.size, fun k hk hn => ?_⟩, fun k hk => ?_⟩
  · have e : (l ++ [x]).length = n + 1 := by simp [hl]
    rw [e, show ints (l ++ [x]) = ints l ++ [.int .i64 x] by simp [ints]]
    exact ownsRow_setCell_other hown (by simp [Value.ownBlock]; exact hne) _
  · rw [Below.heap_setCell _ _ _ _ (fun e => hn (.inl e))]
    exact (hg.block k (by omega) (fun e => hn (.inr e.symm))).trans (hb.block k hk)
  · rcases hk with rfl | hk
    · exact .inl (.inl rfl)
    · obtain rfl : g1 = k := by simpa [Value.ownBlock] using hk
      rcases hat with e | e
      · exact .inl (.inr e)
      · exact .inr (by omega)

set_option maxHeartbeats 4000000 in
theorem qpush_any {q n : Nat} {v : Value} {l : List Int} {w : World} (h : QIs w q v l) (hl : l.length = n) (hn : n ≤ 1000000) (x : Int) :
    Calls Try.prog 88 #[.pointer (some ⟨q, 0, none⟩), .iface 3 (.int .i64 x)] w fun e w' => e = .returned (.tuple #[]) ∧ ∃ v', QStep q v w v' w' (l ++ [x]) := by
  obtain ⟨i0, hi, hz0, hz1, hz2⟩ := info_parts info_int
  have hc := h.cell
  have hf := h.frozen
  have hlt := h.lt
  have hro := Lib.hid (h.row' hl)
  have hne : some q ≠ v.ownBlock := fun e => h.ne e.symm rfl
  have H := Lib.hid h
  obtain ⟨a, c, rfl⟩ := own_slice hro.out
  have hta : ∀ W : World, (Instr.typeAssert (.iface 3 (.int .i64 x)) 20 3 false).run Try.prog W = .ok (.int .i64 x) W := fun W => by kernel_rfl
  clear h
  go_enter Try.func88, Try.ntmps88
  go_region_law ((refine step_append_lies _ (by rfl) (.tmp 8) (.tmp 11) _ (by rfl) 0 3 i0 (.int .i64 0) 1 8 Try.underlying69 hi hz0 hz1 hz2 rfl (by decide) (.slice a n c) n _ (by rfl) (by first | exact hro.out.drew | exact (hro.out.alloc _).drew | exact (hro.out.drew.alloc _)) _ 1 1 [.int .i64 x] (by rfl) rfl (by exact news_one (by go_simp)) (by simp [Value.oneCell']) (by decide) (by unfold maxLen; omega) (by omega) (by omega) _ rfl ?_; intro g1 cap1 w1 hown1 hgrow1 hat1 hlt1; obtain ⟨x0, x1⟩ := grow_box hgrow1 (b := q) (o := 0) (v := .slice a n c) (by go_simp) (by go_simp) hne))
  all_goals go_wp2
  all_goals go_end0
  all_goals exact ⟨rfl, _, qpushed H.out hl (by first | exact ((Below.refl _ _).alloc (Nat.le_refl _) _).drew | exact ((Below.refl _ _).drew).alloc (Nat.le_refl _) _) (by simp) hown1 hgrow1 hat1⟩

theorem qcut {q n g c : Nat} {l : List Int} {w : World} (h : QIs w q (.slice (some ⟨g, 0, none⟩) (n + 1) c) l) (hl : l.length = n + 1) :
    QStep q (.slice (some ⟨g, 0, none⟩) (n + 1) c) w (.slice (some ⟨g, 0, none⟩) n c) (w.setCell ⟨q, 0, none⟩ (.slice (some ⟨g, 0, none⟩) n c)) (l.take n) := by
  have hne := h.ne (g := g) rfl
  refine ⟨⟨box_set _ h.box, ?_⟩, ⟨rfl, rfl, rfl, by simp [World.setCell], fun k hk hn => Below.heap_setCell _ _ _ _ (fun e => hn (.inl e))⟩, fun k hk => .inl hk⟩
  have hr := h.row' hl
  have e : (l.take n).length = n := by simp [hl]
  rw [e]
  have h1 : w.ownsRow 0 3 1 (.slice (some ⟨g, 0, none⟩) n c) n (ints (l.take n)) := by
    refine ⟨by simp [ints, hl], .inr ?_⟩
    rcases hr.2 with ⟨h0, _⟩ | ⟨g', cap', cur, hv, hb, hh, h1, h2, h3, h4⟩
    · simp at h0
    · simp only [Value.slice.injEq, Option.some.injEq, Addr.mk.injEq, and_true, true_and] at hv
      obtain ⟨rfl, rfl⟩ := hv
      refine ⟨_, _, cur, rfl, hb, hh, by omega, h2, h3, ?_⟩
      rw [show ints (l.take n) = (ints l).take n by simp [ints, List.map_take], ← h4, List.take_take]
      congr 1; omega
  exact ownsRow_setCell_other h1 (by simp [Value.ownBlock]; exact fun e => hne e.symm) _
set_option maxHeartbeats 4000000 in
theorem qpop_any {q n g c : Nat} {l : List Int} {w : World} (h : QIs w q (.slice (some ⟨g, 0, none⟩) (n + 1) c) l) (hl : l.length = n + 1) (hn : n ≤ 1000000) :
    Calls Try.prog 87 #[.pointer (some ⟨q, 0, none⟩)] w fun e w' => e = .returned (.iface 3 (.int .i64 (l.getD n 0))) ∧ QStep q (.slice (some ⟨g, 0, none⟩) (n + 1) c) w (.slice (some ⟨g, 0, none⟩) n c) w' (l.take n) := by
  have hc := h.cell
  have hf := h.frozen
  have hlt := h.lt
  have hro := h.row' hl
  have cn : w.cell? ⟨g, n, none⟩ = some (.int .i64 (l.getD n 0)) := by rw [hro.cellAt n (by omega), ints_get l (by omega)]
  have hcap : n + 1 ≤ c ∧ c ≤ maxLen := by
    rcases hro.2 with ⟨h0, _⟩ | ⟨g', cap', cur, hv, _, _, h1, h2, _⟩
    · simp at h0
    · simp at hv; obtain ⟨rfl, rfl⟩ := hv; exact ⟨h1, h2⟩
  unfold maxLen at hcap
  have hlen := Lib.hid (len_any (some ⟨g, 0, none⟩) (n + 1) c)
  have H := Lib.hid h
  generalize l.getD n 0 = x at *
  clear h hro
  go_enter Try.func87, Try.ntmps87
  go_wp2_with (go_at_call 42; (with_reducible refine (hlen.out _).mono ?_); rintro e w5 ⟨rfl, rfl⟩)
  go_ret
  exact ⟨rfl, qcut H.out hl⟩

set_option maxHeartbeats 8000000 in
theorem down_any {q n m : Nat} {v : Value} {l : List Int} {w : World} (h : QIs w q v l) (hd : DnAt l m 0) (hl : l.length = n) (hm : m < n) (hn : n ≤ 1000000) :
    Calls Try.prog 49 #[.iface 68 (.pointer (some ⟨q, 0, none⟩)), .int .i64 0, .int .i64 m] w fun e w' => (∃ b, e = .returned (.bool b)) ∧ ∃ l', l'.Perm l ∧ (∀ k, 0 < k → k < m → l'.getD ((k - 1) / 2) 0 ≤ l'.getD k 0) ∧ (∀ i, m ≤ i → l'.getD i 0 = l.getD i 0) ∧ QStep q v w v w' l' := by
  obtain ⟨g, c, rfl⟩ := h.at (by omega)
  rw [hl] at h ⊢
  go_enter Try.func49, Try.ntmps49
  go_wp2
  go_loopw [7] (fun s wr => ∃ (k : Nat) (l1 : List Int), s = .int .i64 k ∧ k < n ∧ l1.length = n ∧ Hid (DnAt l1 m k) ∧ Hid (l1.Perm l) ∧ Hid (∀ i, m ≤ i → l1.getD i 0 = l.getD i 0) ∧ Hid (QStep q (.slice (some ⟨g, 0, none⟩) n c) w (.slice (some ⟨g, 0, none⟩) n c) wr l1)) (fun s _ => n - (intOf s).toNat)
  case atStart => exact ⟨0, l, rfl, by omega, hl, Lib.hid hd, Lib.hid (List.Perm.refl _), Lib.hid (fun _ _ => rfl), Lib.hid (QStep.refl h)⟩
  case round =>
    clear hd hl
    obtain ⟨k, l1, rfl, hk, hl1, hD, hP, hE, hQ⟩ := hrel
    obtain ⟨j1, hj1⟩ : ∃ j1, 2 * k + 1 = j1 := ⟨_, rfl⟩
    have e1 : 2 * (k : Int) + 1 = (j1 : Int) := by omega
    by_cases h1 : j1 < m
    · have hI := hQ.out.is
      have hml := method_Less q _ wr hI.cell
      have hmt := Lib.hid (fun W (hW : Below wr.heap.size wr W) => method_Less q (.slice (some ⟨g, 0, none⟩) n c) W (hI.below hW).cell)
      have hms := Lib.hid (fun W (hW : Below wr.heap.size wr W) => method_Swap q (.slice (some ⟨g, 0, none⟩) n c) W (hI.below hW).cell)
      obtain ⟨j2, hj2⟩ : ∃ j2, j1 + 1 = j2 := ⟨_, rfl⟩
      have e2 : (j1 : Int) + 1 = (j2 : Int) := by omega
      have g1 : decide ((m : Int) ≤ (j1 : Int)) = false := by simp; omega
      have g2 : decide ((j1 : Int) < 0) = false := by simp
      by_cases h2 : j2 < m
      · have g3 : decide ((j2 : Int) < (m : Int)) = true := by simp; omega
        have hLA := Lib.hid (fun W (hW : Below wr.heap.size wr W) => less_any ((hI.below hW).row' hl1) hl1 (i := j2) (j := j1) (by omega) (by omega))
        by_cases h3 : l1.getD j2 0 < l1.getD j1 0
        · have hd : decide (l1.getD j2 0 < l1.getD j1 0) = true := by simpa using h3
          rw [hd] at hLA
          clear hd
          -- j = j2
          have hjm : j2 < m := by omega
          have hsw := Lib.hid (fun W (hW : Below wr.heap.size wr W) => swap_any ((hI.below hW).row' hl1) hl1 (i := k) (j := j2) (by omega) (by omega))
          have hP1 := Lib.hid ((swp_perm l1 (i := k) (j := j2) (by omega) (by omega)).trans hP.out)
          have hE1 : Hid (∀ i, m ≤ i → (swp l1 k j2).getD i 0 = l.getD i 0) := Lib.hid (fun i hi => by rw [swp_get l1 (by omega) (by omega), if_neg (by omega), if_neg (by omega)]; exact hE.out i hi)
          have hsl : (swp l1 k j2).length = n := by rw [swp_len]; exact hl1
          have hQ1 := Lib.hid (fun W (hW : Below wr.heap.size wr W) W2 (hr : W2.ownsRow 0 3 1 (.slice (some ⟨g, 0, none⟩) n c) n (ints (swp l1 k j2))) (hk : Kept (fun k => k = g) W W2) =>
            (show QStep q (.slice (some ⟨g, 0, none⟩) n c) w (.slice (some ⟨g, 0, none⟩) n c) W2 (swp l1 k j2) from
              (hQ.out.then (QStep.of_below hI hW)).then ((hI.below hW).swapped hsl hr hk)))
          have hQ2 := Lib.hid (fun W (hW : Below wr.heap.size wr W) => (show QStep q (.slice (some ⟨g, 0, none⟩) n c) w (.slice (some ⟨g, 0, none⟩) n c) W l1 from hQ.out.then (QStep.of_below hI hW)))
          have hLB := Lib.hid (fun W (hW : Below wr.heap.size wr W) => less_any ((hI.below hW).row' hl1) hl1 (i := j2) (j := k) (by omega) (by omega))
          have hS0 := Lib.hid (Below.refl wr.heap.size wr)
          by_cases hlt : l1.getD j2 0 < l1.getD k 0
          · have hd : decide (l1.getD j2 0 < l1.getD k 0) = true := by simpa using hlt
            rw [hd] at hLB
            have hD3 := Lib.hid (hD.out.step (by omega) (j := j2) (by omega) (by omega) hlt (fun i hi hin => by rcases hi with e | e; (rw [e, show 2 * k + 1 = j1 by omega]; omega); (rw [e, show 2 * k + 2 = j2 by omega]; omega)))
            clear hlt hd hI hQ hD
            go_wp2_with (first | (go_at_call 86; (with_reducible refine (hLA.out _ hS0.out).mono ?_); rintro e w5 ⟨rfl, hb5⟩; have hT := Lib.hid (hS0.out.trans (hb5.mono hS0.out.size)); clear hS0; have hS0 := hT; clear hT; have hm5 := hmt.out _ hS0.out; have hm6 := hms.out _ hS0.out; clear hb5) | (go_at_call 86; (with_reducible refine (hLB.out _ hS0.out).mono ?_); rintro e w5 ⟨rfl, hb5⟩; have hT := Lib.hid (hS0.out.trans (hb5.mono hS0.out.size)); clear hS0; have hS0 := hT; clear hT; have hm5 := hmt.out _ hS0.out; have hm6 := hms.out _ hS0.out; clear hb5) | (go_at_call 90; (with_reducible refine (hsw.out _ hS0.out).mono ?_); rintro e w6 ⟨rfl, hr6, hk6⟩; have hQ6 := Lib.hid (hQ1.out _ hS0.out _ hr6 hk6); clear hr6 hk6))
            exact ⟨⟨j2, _, rfl, by omega, hsl, hD3, hP1, hE1, hQ6⟩, by simp [intOf]; omega⟩
          · have hd : decide (l1.getD j2 0 < l1.getD k 0) = false := by simpa using hlt
            rw [hd] at hLB
            have hD3 := Lib.hid (hD.out.stop (fun _ => by rw [show 2 * k + 1 = j1 by omega]; omega) (fun _ => by rw [show 2 * k + 2 = j2 by omega]; omega))
            clear hlt hd hI hQ hD
            go_wp2_with (first | (go_at_call 86; (with_reducible refine (hLA.out _ hS0.out).mono ?_); rintro e w5 ⟨rfl, hb5⟩; have hT := Lib.hid (hS0.out.trans (hb5.mono hS0.out.size)); clear hS0; have hS0 := hT; clear hT; have hm5 := hmt.out _ hS0.out; have hm6 := hms.out _ hS0.out; clear hb5) | (go_at_call 86; (with_reducible refine (hLB.out _ hS0.out).mono ?_); rintro e w5 ⟨rfl, hb5⟩; have hT := Lib.hid (hS0.out.trans (hb5.mono hS0.out.size)); clear hS0; have hS0 := hT; clear hT; have hm5 := hmt.out _ hS0.out; have hm6 := hms.out _ hS0.out; clear hb5))
            go_ret
            exact ⟨⟨_, rfl⟩, l1, hP.out, hD3.out, hE.out, hQ2.out _ hS0.out⟩
        · have hd : decide (l1.getD j2 0 < l1.getD j1 0) = false := by simpa using h3
          rw [hd] at hLA
          clear hd
          -- j = j1
          have hjm : j1 < m := by omega
          have hsw := Lib.hid (fun W (hW : Below wr.heap.size wr W) => swap_any ((hI.below hW).row' hl1) hl1 (i := k) (j := j1) (by omega) (by omega))
          have hP1 := Lib.hid ((swp_perm l1 (i := k) (j := j1) (by omega) (by omega)).trans hP.out)
          have hE1 : Hid (∀ i, m ≤ i → (swp l1 k j1).getD i 0 = l.getD i 0) := Lib.hid (fun i hi => by rw [swp_get l1 (by omega) (by omega), if_neg (by omega), if_neg (by omega)]; exact hE.out i hi)
          have hsl : (swp l1 k j1).length = n := by rw [swp_len]; exact hl1
          have hQ1 := Lib.hid (fun W (hW : Below wr.heap.size wr W) W2 (hr : W2.ownsRow 0 3 1 (.slice (some ⟨g, 0, none⟩) n c) n (ints (swp l1 k j1))) (hk : Kept (fun k => k = g) W W2) =>
            (show QStep q (.slice (some ⟨g, 0, none⟩) n c) w (.slice (some ⟨g, 0, none⟩) n c) W2 (swp l1 k j1) from
              (hQ.out.then (QStep.of_below hI hW)).then ((hI.below hW).swapped hsl hr hk)))
          have hQ2 := Lib.hid (fun W (hW : Below wr.heap.size wr W) => (show QStep q (.slice (some ⟨g, 0, none⟩) n c) w (.slice (some ⟨g, 0, none⟩) n c) W l1 from hQ.out.then (QStep.of_below hI hW)))
          have hLB := Lib.hid (fun W (hW : Below wr.heap.size wr W) => less_any ((hI.below hW).row' hl1) hl1 (i := j1) (j := k) (by omega) (by omega))
          have hS0 := Lib.hid (Below.refl wr.heap.size wr)
          by_cases hlt : l1.getD j1 0 < l1.getD k 0
          · have hd : decide (l1.getD j1 0 < l1.getD k 0) = true := by simpa using hlt
            rw [hd] at hLB
            have hD3 := Lib.hid (hD.out.step (by omega) (j := j1) (by omega) (by omega) hlt (fun i hi hin => by rcases hi with e | e; (rw [e, show 2 * k + 1 = j1 by omega]; omega); (rw [e, show 2 * k + 2 = j2 by omega]; omega)))
            clear hlt hd hI hQ hD
            go_wp2_with (first | (go_at_call 86; (with_reducible refine (hLA.out _ hS0.out).mono ?_); rintro e w5 ⟨rfl, hb5⟩; have hT := Lib.hid (hS0.out.trans (hb5.mono hS0.out.size)); clear hS0; have hS0 := hT; clear hT; have hm5 := hmt.out _ hS0.out; have hm6 := hms.out _ hS0.out; clear hb5) | (go_at_call 86; (with_reducible refine (hLB.out _ hS0.out).mono ?_); rintro e w5 ⟨rfl, hb5⟩; have hT := Lib.hid (hS0.out.trans (hb5.mono hS0.out.size)); clear hS0; have hS0 := hT; clear hT; have hm5 := hmt.out _ hS0.out; have hm6 := hms.out _ hS0.out; clear hb5) | (go_at_call 90; (with_reducible refine (hsw.out _ hS0.out).mono ?_); rintro e w6 ⟨rfl, hr6, hk6⟩; have hQ6 := Lib.hid (hQ1.out _ hS0.out _ hr6 hk6); clear hr6 hk6))
            exact ⟨⟨j1, _, rfl, by omega, hsl, hD3, hP1, hE1, hQ6⟩, by simp [intOf]; omega⟩
          · have hd : decide (l1.getD j1 0 < l1.getD k 0) = false := by simpa using hlt
            rw [hd] at hLB
            have hD3 := Lib.hid (hD.out.stop (fun _ => by rw [show 2 * k + 1 = j1 by omega]; omega) (fun _ => by rw [show 2 * k + 2 = j2 by omega]; omega))
            clear hlt hd hI hQ hD
            go_wp2_with (first | (go_at_call 86; (with_reducible refine (hLA.out _ hS0.out).mono ?_); rintro e w5 ⟨rfl, hb5⟩; have hT := Lib.hid (hS0.out.trans (hb5.mono hS0.out.size)); clear hS0; have hS0 := hT; clear hT; have hm5 := hmt.out _ hS0.out; have hm6 := hms.out _ hS0.out; clear hb5) | (go_at_call 86; (with_reducible refine (hLB.out _ hS0.out).mono ?_); rintro e w5 ⟨rfl, hb5⟩; have hT := Lib.hid (hS0.out.trans (hb5.mono hS0.out.size)); clear hS0; have hS0 := hT; clear hT; have hm5 := hmt.out _ hS0.out; have hm6 := hms.out _ hS0.out; clear hb5))
            go_ret
            exact ⟨⟨_, rfl⟩, l1, hP.out, hD3.out, hE.out, hQ2.out _ hS0.out⟩
      · have g3 : decide ((j2 : Int) < (m : Int)) = false := by simp; omega
        have hLA := Lib.hid (fun W (hW : Below wr.heap.size wr W) => less_any ((hI.below hW).row' hl1) hl1 (i := j1) (j := j1) (by omega) (by omega))
        -- j = j1
        have hjm : j1 < m := by omega
        have hsw := Lib.hid (fun W (hW : Below wr.heap.size wr W) => swap_any ((hI.below hW).row' hl1) hl1 (i := k) (j := j1) (by omega) (by omega))
        have hP1 := Lib.hid ((swp_perm l1 (i := k) (j := j1) (by omega) (by omega)).trans hP.out)
        have hE1 : Hid (∀ i, m ≤ i → (swp l1 k j1).getD i 0 = l.getD i 0) := Lib.hid (fun i hi => by rw [swp_get l1 (by omega) (by omega), if_neg (by omega), if_neg (by omega)]; exact hE.out i hi)
        have hsl : (swp l1 k j1).length = n := by rw [swp_len]; exact hl1
        have hQ1 := Lib.hid (fun W (hW : Below wr.heap.size wr W) W2 (hr : W2.ownsRow 0 3 1 (.slice (some ⟨g, 0, none⟩) n c) n (ints (swp l1 k j1))) (hk : Kept (fun k => k = g) W W2) =>
          (show QStep q (.slice (some ⟨g, 0, none⟩) n c) w (.slice (some ⟨g, 0, none⟩) n c) W2 (swp l1 k j1) from
            (hQ.out.then (QStep.of_below hI hW)).then ((hI.below hW).swapped hsl hr hk)))
        have hQ2 := Lib.hid (fun W (hW : Below wr.heap.size wr W) => (show QStep q (.slice (some ⟨g, 0, none⟩) n c) w (.slice (some ⟨g, 0, none⟩) n c) W l1 from hQ.out.then (QStep.of_below hI hW)))
        have hLB := Lib.hid (fun W (hW : Below wr.heap.size wr W) => less_any ((hI.below hW).row' hl1) hl1 (i := j1) (j := k) (by omega) (by omega))
        have hS0 := Lib.hid (Below.refl wr.heap.size wr)
        by_cases hlt : l1.getD j1 0 < l1.getD k 0
        · have hd : decide (l1.getD j1 0 < l1.getD k 0) = true := by simpa using hlt
          rw [hd] at hLB
          have hD3 := Lib.hid (hD.out.step (by omega) (j := j1) (by omega) (by omega) hlt (fun i hi hin => by rcases hi with e | e; (rw [e, show 2 * k + 1 = j1 by omega]; omega); omega))
          clear hlt hd hI hQ hD
          go_wp2_with (first | (go_at_call 86; (with_reducible refine (hLA.out _ hS0.out).mono ?_); rintro e w5 ⟨rfl, hb5⟩; have hT := Lib.hid (hS0.out.trans (hb5.mono hS0.out.size)); clear hS0; have hS0 := hT; clear hT; have hm5 := hmt.out _ hS0.out; have hm6 := hms.out _ hS0.out; clear hb5) | (go_at_call 86; (with_reducible refine (hLB.out _ hS0.out).mono ?_); rintro e w5 ⟨rfl, hb5⟩; have hT := Lib.hid (hS0.out.trans (hb5.mono hS0.out.size)); clear hS0; have hS0 := hT; clear hT; have hm5 := hmt.out _ hS0.out; have hm6 := hms.out _ hS0.out; clear hb5) | (go_at_call 90; (with_reducible refine (hsw.out _ hS0.out).mono ?_); rintro e w6 ⟨rfl, hr6, hk6⟩; have hQ6 := Lib.hid (hQ1.out _ hS0.out _ hr6 hk6); clear hr6 hk6))
          exact ⟨⟨j1, _, rfl, by omega, hsl, hD3, hP1, hE1, hQ6⟩, by simp [intOf]; omega⟩
        · have hd : decide (l1.getD j1 0 < l1.getD k 0) = false := by simpa using hlt
          rw [hd] at hLB
          have hD3 := Lib.hid (hD.out.stop (fun _ => by rw [show 2 * k + 1 = j1 by omega]; omega) (fun _ => by omega))
          clear hlt hd hI hQ hD
          go_wp2_with (first | (go_at_call 86; (with_reducible refine (hLA.out _ hS0.out).mono ?_); rintro e w5 ⟨rfl, hb5⟩; have hT := Lib.hid (hS0.out.trans (hb5.mono hS0.out.size)); clear hS0; have hS0 := hT; clear hT; have hm5 := hmt.out _ hS0.out; have hm6 := hms.out _ hS0.out; clear hb5) | (go_at_call 86; (with_reducible refine (hLB.out _ hS0.out).mono ?_); rintro e w5 ⟨rfl, hb5⟩; have hT := Lib.hid (hS0.out.trans (hb5.mono hS0.out.size)); clear hS0; have hS0 := hT; clear hT; have hm5 := hmt.out _ hS0.out; have hm6 := hms.out _ hS0.out; clear hb5))
          go_ret
          exact ⟨⟨_, rfl⟩, l1, hP.out, hD3.out, hE.out, hQ2.out _ hS0.out⟩
    · have g1 : decide ((m : Int) ≤ (j1 : Int)) = true := by simp; omega
      have hD3 := Lib.hid (hD.out.stop (fun _ => by omega) (fun _ => by omega))
      go_wp2
      go_ret
      exact ⟨⟨_, rfl⟩, l1, hP.out, hD3.out, hE.out, hQ.out⟩
end Go.Proofs.Ytocfchgkfaogdaa
