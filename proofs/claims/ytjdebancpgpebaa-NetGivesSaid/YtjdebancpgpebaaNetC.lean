/-
  A new netlist; a bus or a register more, and where they lie then.
-/
import Derived.Test.YtjdebancpgpebaaNetB
namespace Go.Proofs.Ytjdebancpgpebaa
open Go.RowKit Go.Maps
set_option maxRecDepth 100000

theorem kept_store {wS wa w1 : World} {row : Option Nat} (hb : Below wS.heap.size wS wa) (hg : wa.grownBy w1 row) (b o : Nat) (v : Value) : Kept (fun k => k = b ∨ row = some k) wS (w1.setCell ⟨b, o, none⟩ v) :=
  ⟨hg.os.trans hb.os, hg.tape.trans hb.tape, hg.output.trans hb.output, by have := hg.size; have := hb.size; simp [World.setCell]; omega, fun k hk hn => by
    have n1 : k ≠ b := fun e => hn (.inl e)
    have n2 : some k ≠ row := fun e => hn (.inr e.symm)
    rw [Below.heap_setCell _ _ _ _ n1, hg.block k (by have := hb.size; omega) n2, hb.block k hk]⟩

/-- The buses that come in are others now. -/
theorem NetIs.setIn {w w' : World} {q : NPl} {N : Nt} (h : NetIs w q N) {v : Value} {L : List Bus} (hk : Kept (fun k => k = q.b ∨ q.iv.ownBlock = some k) w w') (hbox : w'.heap[q.b]? = some (netBox { q with iv := v } N.name)) (hrow : BusRow w' v L)
    (hv : ∀ k, v.ownBlock = some k → q.iv.ownBlock = some k ∨ w.heap.size ≤ k) : NStep q w { q with iv := v } w' { N with ins := L } := by
  have hF : NoLits w (fun k => k = q.b ∨ q.iv.ownBlock = some k) := fun k c fz hp => h.noLits k c fz (by rcases hp with hp | hp; exact .inl hp; exact .inr (.inr (.inl hp)))
  refine ⟨⟨hbox, h.g.beside hk (fun k hp hg => ?_), hrow, own_keptF h.regs hk (fun k e hp => ?_), h.outs.keptF hk (fun k e hp => ?_) hF, fun k hk1 hk2 => ?_⟩, ?_, rfl, rfl, fun k hk => ?_⟩
  · rcases hp with hp | hp
    · exact (h.gFar hg).1 hp
    · exact (h.gFar hg).2.1 hp
  · rcases hp with rfl | hp
    · exact h.bFar.2.1 e
    · exact (h.rFar e).1 hp
  · rcases hp with rfl | hp
    · exact h.bFar.2.2 e
    · exact h.apart k hp e
  · rcases hv k hk1 with h1 | h1
    · exact h.apart k h1 hk2
    · have := h.has_lt (k := k) (.inr (.inr (.inr (.inr hk2)))); omega
  · exact ⟨hk.os, hk.tape, hk.output, hk.size, fun k hlt hn => hk.block k hlt (fun hp => hn (by rcases hp with hp | hp; exact .inl hp; exact .inr (.inr (.inl hp))))⟩
  · rcases hk with hk | hk | hk | hk | hk
    · exact .inl (.inl hk)
    · exact .inl (.inr (.inl hk))
    · rcases hv k hk with h1 | h1
      · exact .inl (.inr (.inr (.inl h1)))
      · exact .inr h1
    · exact .inl (.inr (.inr (.inr (.inl hk))))
    · exact .inl (.inr (.inr (.inr (.inr hk))))
theorem NetIs.setOut {w w' : World} {q : NPl} {N : Nt} (h : NetIs w q N) {v : Value} {L : List Bus} (hk : Kept (fun k => k = q.b ∨ q.ov.ownBlock = some k) w w') (hbox : w'.heap[q.b]? = some (netBox { q with ov := v } N.name)) (hrow : BusRow w' v L)
    (hv : ∀ k, v.ownBlock = some k → q.ov.ownBlock = some k ∨ w.heap.size ≤ k) : NStep q w { q with ov := v } w' { N with outs := L } := by
  have hF : NoLits w (fun k => k = q.b ∨ q.ov.ownBlock = some k) := fun k c fz hp => h.noLits k c fz (by rcases hp with hp | hp; exact .inl hp; exact .inr (.inr (.inr (.inr hp))))
  refine ⟨⟨hbox, h.g.beside hk (fun k hp hg => ?_), h.ins.keptF hk (fun k e hp => ?_) hF, own_keptF h.regs hk (fun k e hp => ?_), hrow, fun k hk1 hk2 => ?_⟩, ?_, rfl, rfl, fun k hk => ?_⟩
  · rcases hp with hp | hp
    · exact (h.gFar hg).1 hp
    · exact (h.gFar hg).2.2.2 hp
  · rcases hp with rfl | hp
    · exact h.bFar.1 e
    · exact h.apart k e hp
  · rcases hp with rfl | hp
    · exact h.bFar.2.1 e
    · exact (h.rFar e).2 hp
  · rcases hv k hk2 with h1 | h1
    · exact h.apart k hk1 h1
    · have := h.has_lt (k := k) (.inr (.inr (.inl hk1))); omega
  · exact ⟨hk.os, hk.tape, hk.output, hk.size, fun k hlt hn => hk.block k hlt (fun hp => hn (by rcases hp with hp | hp; exact .inl hp; exact .inr (.inr (.inr (.inr hp)))))⟩
  · rcases hk with hk | hk | hk | hk | hk
    · exact .inl (.inl hk)
    · exact .inl (.inr (.inl hk))
    · exact .inl (.inr (.inr (.inl hk)))
    · exact .inl (.inr (.inr (.inr (.inl hk))))
    · rcases hv k hk with h1 | h1
      · exact .inl (.inr (.inr (.inr (.inr h1))))
      · exact .inr h1
theorem NetIs.setRegs {w w' : World} {q : NPl} {N : Nt} (h : NetIs w q N) {v : Value} {R : List Rg} (hk : Kept (fun k => k = q.b ∨ q.rv.ownBlock = some k) w w') (hbox : w'.heap[q.b]? = some (netBox { q with rv := v } N.name)) (hrow : RegRow w' v R)
    (hv : ∀ k, v.ownBlock = some k → q.rv.ownBlock = some k ∨ w.heap.size ≤ k) : NStep q w { q with rv := v } w' { N with regs := R } := by
  have hF : NoLits w (fun k => k = q.b ∨ q.rv.ownBlock = some k) := fun k c fz hp => h.noLits k c fz (by rcases hp with hp | hp; exact .inl hp; exact .inr (.inr (.inr (.inl hp))))
  refine ⟨⟨hbox, h.g.beside hk (fun k hp hg => ?_), h.ins.keptF hk (fun k e hp => ?_) hF, hrow, h.outs.keptF hk (fun k e hp => ?_) hF, h.apart⟩, ?_, rfl, rfl, fun k hk => ?_⟩
  · rcases hp with hp | hp
    · exact (h.gFar hg).1 hp
    · exact (h.gFar hg).2.2.1 hp
  · rcases hp with rfl | hp
    · exact h.bFar.1 e
    · exact (h.rFar hp).1 e
  · rcases hp with rfl | hp
    · exact h.bFar.2.2 e
    · exact (h.rFar hp).2 e
  · exact ⟨hk.os, hk.tape, hk.output, hk.size, fun k hlt hn => hk.block k hlt (fun hp => hn (by rcases hp with hp | hp; exact .inl hp; exact .inr (.inr (.inr (.inl hp)))))⟩
  · rcases hk with hk | hk | hk | hk | hk
    · exact .inl (.inl hk)
    · exact .inl (.inr (.inl hk))
    · exact .inl (.inr (.inr (.inl hk)))
    · rcases hv k hk with h1 | h1
      · exact .inl (.inr (.inr (.inr (.inl h1))))
      · exact .inr h1
    · exact .inl (.inr (.inr (.inr (.inr hk))))

/-- A row of buses behind an append, and a store elsewhere. -/
theorem push_row {wS wa w1 : World} {b : Nat} {cs : Array Value} {fz : Nat × Nat} (hbb : wS.heap[b]? = some (.cells cs 33 fz)) (hb : Below wS.heap.size wS wa) {v : Value} {L : List Bus} {K : List BV} (hK : BusAt wS v L K) {s : ByteArray} {la : Option Addr} {m lc : Nat} {l : List Int}
    (hl : LRow wa la m lc l) {g cap : Nat} (hown : w1.ownsRow 0 46 2 (.slice (some ⟨g, 0, none⟩) (L.length + 1) cap) (L.length + 1) (bvCells K ++ [.string s, .slice la m lc]))
    (hg : wa.grownBy w1 v.ownBlock) (hat : v.ownBlock = some g ∨ g = wa.heap.size) (o : Nat) (x : Value) :
    BusRow (w1.setCell ⟨b, o, none⟩ x) (.slice (some ⟨g, 0, none⟩) (L.length + 1) cap) (L ++ [⟨s, l⟩]) ∧ w1.heap[b]? = some (.cells cs 33 fz) := by
  have hlt := (Array.getElem?_eq_some_iff.1 hbb).1
  have hvt : ∀ k, v.ownBlock = some k → ∃ c, wS.heap[k]? = some (.cells c 46 (0, 0)) := fun k hk => own_type hK.own hk
  have hvb : v.ownBlock ≠ some b := fun e => by obtain ⟨c, hc⟩ := hvt b e; rw [hbb] at hc; simp at hc
  have hgb : g ≠ b := by
    rcases hat with h | h
    · rintro rfl; exact hvb h
    · have := hb.size; omega
  have hNS : NoLits wS (fun k => k = b ∨ v.ownBlock = some k) := by
    intro k c fz2 hp hh
    rcases hp with rfl | hp
    · rw [hbb] at hh; simp at hh
    · obtain ⟨c2, hc2⟩ := hvt k hp; rw [hc2] at hh; simp at hh
  have hNa : NoLits wa (fun k => k = b ∨ v.ownBlock = some k) := by
    intro k c fz2 hp hh
    rcases hp with rfl | hp
    · rw [hb.block _ hlt, hbb] at hh; simp at hh
    · obtain ⟨c2, hc2⟩ := hvt k hp; rw [hb.block _ (Array.getElem?_eq_some_iff.1 hc2).1, hc2] at hh; simp at hh
  have kS := kept_store hb hg b o x
  have ka := kept_store (Below.refl wa.heap.size wa) hg b o x
  refine ⟨⟨K ++ [⟨s, la, m, lc⟩], ?_, by simp [hK.len], ?_⟩, ?_⟩
  · rw [bvCells_push]
    have : (w1.setCell ⟨b, o, none⟩ x).ownsRow 0 46 2 (.slice (some ⟨g, 0, none⟩) (L.length + 1) cap) (L.length + 1) (bvCells K ++ [.string s, .slice la m lc]) := by
      refine ⟨hown.1, ?_⟩
      rcases hown.2 with h0 | ⟨g', cap', cur', hv', hg', hh, r⟩
      · exact .inl h0
      · simp at hv'
        obtain ⟨rfl, rfl⟩ := hv'
        exact .inr ⟨_, _, cur', rfl, hg', by rw [Below.heap_setCell _ _ _ _ hgb]; exact hh, r⟩
    simpa using this
  · intro i k bb e1 e2
    by_cases hi : i < K.length
    · rw [List.getElem?_append_left hi] at e1
      rw [List.getElem?_append_left (by rw [← hK.len]; exact hi)] at e2
      obtain ⟨r1, r2⟩ := hK.row i k bb e1 e2
      exact ⟨r1, r2.keptF kS hNS⟩
    · have hlen := hK.len
      have hi2 := (List.getElem?_eq_some_iff.1 e1).1
      simp at hi2
      have e : i = K.length := by omega
      rw [e, List.getElem?_append_right (Nat.le_refl _)] at e1
      rw [e, hlen, List.getElem?_append_right (Nat.le_refl _)] at e2
      simp at e1 e2
      subst e1 e2
      exact ⟨rfl, hl.keptF ka hNa⟩
  · rw [hg.block b (by have := hb.size; omega) (fun e => hvb e.symm), hb.block _ hlt]; exact hbb
theorem new_block {wa : World} {v : Value} {g n cap : Nat} {W : World} (hb : Below W.heap.size W wa) (hat : v.ownBlock = some g ∨ g = wa.heap.size) : ∀ k, (Value.slice (some ⟨g, 0, none⟩) n cap).ownBlock = some k → v.ownBlock = some k ∨ W.heap.size ≤ k := by
  intro k hk
  simp [Value.ownBlock] at hk
  subst hk
  rcases hat with h | h
  · exact .inl h
  · have := hb.size; exact .inr (by omega)
/-- A bus more, that comes in. -/
theorem in_push {wS wa w1 : World} {q : NPl} {N : Nt} (h : NetIs wS q N) (hb : Below wS.heap.size wS wa) {K : List BV} (hK : BusAt wS q.iv N.ins K) {s : ByteArray} {la : Option Addr} {m lc : Nat} {l : List Int}
    (hl : LRow wa la m lc l) {g cap : Nat} (hown : w1.ownsRow 0 46 2 (.slice (some ⟨g, 0, none⟩) (N.ins.length + 1) cap) (N.ins.length + 1) (bvCells K ++ [.string s, .slice la m lc]))
    (hg : wa.grownBy w1 q.iv.ownBlock) (hat : q.iv.ownBlock = some g ∨ g = wa.heap.size) :
    ∃ q', NStep q wS q' (w1.setCell ⟨q.b, 2, none⟩ (.slice (some ⟨g, 0, none⟩) (N.ins.length + 1) cap)) { N with ins := N.ins ++ [⟨s, l⟩] } := by
  obtain ⟨r1, r2⟩ := push_row h.box hb hK hl hown hg hat 2 (.slice (some ⟨g, 0, none⟩) (N.ins.length + 1) cap)
  refine ⟨_, h.setIn (kept_store hb hg q.b 2 _) ?_ r1 (new_block hb hat)⟩
  have := box_set (o := 2) r2 (.slice (some ⟨g, 0, none⟩) (N.ins.length + 1) cap)
  simpa [netBox] using this
/-- A bus more, that goes out. -/
theorem out_push {wS wa w1 : World} {q : NPl} {N : Nt} (h : NetIs wS q N) (hb : Below wS.heap.size wS wa) {K : List BV} (hK : BusAt wS q.ov N.outs K) {s : ByteArray} {la : Option Addr} {m lc : Nat} {l : List Int}
    (hl : LRow wa la m lc l) {g cap : Nat} (hown : w1.ownsRow 0 46 2 (.slice (some ⟨g, 0, none⟩) (N.outs.length + 1) cap) (N.outs.length + 1) (bvCells K ++ [.string s, .slice la m lc]))
    (hg : wa.grownBy w1 q.ov.ownBlock) (hat : q.ov.ownBlock = some g ∨ g = wa.heap.size) :
    ∃ q', NStep q wS q' (w1.setCell ⟨q.b, 4, none⟩ (.slice (some ⟨g, 0, none⟩) (N.outs.length + 1) cap)) { N with outs := N.outs ++ [⟨s, l⟩] } := by
  obtain ⟨r1, r2⟩ := push_row h.box hb hK hl hown hg hat 4 (.slice (some ⟨g, 0, none⟩) (N.outs.length + 1) cap)
  refine ⟨_, h.setOut (kept_store hb hg q.b 4 _) ?_ r1 (new_block hb hat)⟩
  have := box_set (o := 4) r2 (.slice (some ⟨g, 0, none⟩) (N.outs.length + 1) cap)
  simpa [netBox] using this
/-- A register more. -/
theorem reg_push {wS wa w1 : World} {q : NPl} {N : Nt} (h : NetIs wS q N) (hb : Below wS.heap.size wS wa) (r : Rg) {g cap : Nat}
    (hown : w1.ownsRow 0 52 4 (.slice (some ⟨g, 0, none⟩) (N.regs.length + 1) cap) (N.regs.length + 1) (rgCells N.regs ++ [.int .u32 r.q, .int .u32 r.d, .int .u32 r.en, .bool r.init]))
    (hg : wa.grownBy w1 q.rv.ownBlock) (hat : q.rv.ownBlock = some g ∨ g = wa.heap.size) :
    ∃ q', NStep q wS q' (w1.setCell ⟨q.b, 3, none⟩ (.slice (some ⟨g, 0, none⟩) (N.regs.length + 1) cap)) { N with regs := N.regs ++ [r] } := by
  have hgb : g ≠ q.b := by
    rcases hat with h1 | h1
    · rintro rfl; exact h.bFar.2.1 h1
    · have := hb.size; have := h.lt; omega
  have hbox : w1.heap[q.b]? = some (netBox q N.name) := by rw [hg.block q.b (by have := hb.size; have := h.lt; omega) (fun e => h.bFar.2.1 e.symm), hb.block _ h.lt]; exact h.box
  refine ⟨_, h.setRegs (v := .slice (some ⟨g, 0, none⟩) (N.regs.length + 1) cap) (kept_store hb hg q.b 3 _) ?_ ?_ (new_block hb hat)⟩
  · have := box_set (o := 3) hbox (.slice (some ⟨g, 0, none⟩) (N.regs.length + 1) cap)
    simpa [netBox] using this
  · unfold RegRow
    rw [rgCells_push, List.length_append]
    refine ⟨hown.1, ?_⟩
    rcases hown.2 with h0 | ⟨g', cap', cur', hv', hg', hh, r⟩
    · exact .inl h0
    · simp at hv'
      obtain ⟨rfl, rfl⟩ := hv'
      exact .inr ⟨_, _, cur', rfl, hg', by rw [Below.heap_setCell _ _ _ _ hgb]; exact hh, r⟩

/-- A new netlist. -/
theorem New_ok (F H : Bool) {s : ByteArray} (hs : mayName s = true) (w : World) :
    Calls Try.prog 5 #[.string s, .agg #[.bool F, .bool H]] w fun e w' => ∃ q : NPl, e = .returned (.tuple #[.pointer (some ⟨q.b, 0, none⟩), .int .i64 0]) ∧ NetIs w' q ⟨newG F H, s, [], [], []⟩ ∧ Below w.heap.size w w' ∧ ∀ k, q.has k → w.heap.size ≤ k := by
  have hb : Below w.heap.size w (w.alloc (.cells #[.bool F, .bool H] 23)) := (Below.refl _ _).alloc (Nat.le_refl _) _
  have hm := Lib.hid (fun w => MayName_any s w)
  rw [hs] at hm
  have hz : (w.alloc (.cells #[.bool F, .bool H] 23)).heap.size = w.heap.size + 1 := by simp
  have c0 : (w.alloc (.cells #[.bool F, .bool H] 23)).cell? ⟨w.heap.size, 0, none⟩ = some (.bool F) := by simp [go_sem]
  have c1 : (w.alloc (.cells #[.bool F, .bool H] 23)).cell? ⟨w.heap.size, 1, none⟩ = some (.bool H) := by simp [go_sem]
  have hnew := Lib.hid (fun w => new_any F H w)
  have hb := Lib.hid hb
  clear hs
  go_enter Try.func5, Try.ntmps5
  go_wp2_with (first
    | (go_at_call 10; (with_reducible refine (hm.out _).mono ?_); rintro e w2 ⟨rfl, hb2⟩; have d0 := stepc hb2 (by omega) c0; have d1 := stepc hb2 (by omega) c1; clear c0 c1)
    | (go_at_call 21; (with_reducible refine (hnew.out _).mono ?_); rintro e w3 ⟨p, rfl, hI, hb3, hout⟩))
  go_ret2
  have hw := nextw hb.out hb2
  have hb4 : ∀ o, Below w3.heap.size w3 (w3.alloc o) := fun o => (Below.refl _ _).alloc (Nat.le_refl _) _
  refine ⟨⟨w3.heap.size, p, .slice none 0 0, .slice none 0 0, .slice none 0 0⟩, rfl, ⟨Deep.blk_alloc_new _ _, hI.below (hb4 _), BusRow.nil _, ⟨rfl, .inl ⟨rfl, rfl⟩⟩, BusRow.nil _, fun k hk => by simp [Value.ownBlock] at hk⟩, (nextw hw hb3).alloc (nextw hw hb3).size _, ?_⟩
  intro k hk
  have := hw.size
  rcases hk with rfl | hk | hk | hk | hk
  · exact (nextw hw hb3).size
  · have := hout k hk; omega
  · simp [Value.ownBlock] at hk
  · simp [Value.ownBlock] at hk
  · simp [Value.ownBlock] at hk
end Go.Proofs.Ytjdebancpgpebaa
