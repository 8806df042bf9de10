/-
  A new netlist; a bus or a register more, and where they lie then.
  AddReg, SetReg.
-/
import Derived.Test.YtlkainmkhofpaaaGreatFSAH
section
namespace Go.Proofs.YtlkainmkhofpaaaGreat
open Go.RowKit Go.Maps
set_option maxRecDepth 100000

theorem kept_store {wS wa w1 : World} {row : Option Nat} (hb : Below wS.heap.size wS wa) (hg : wa.grownBy w1 row) (b o : Nat) (v : Value) : Kept (fun k => k = b ∨ row = some k) wS (w1.setCell ⟨b, o, none⟩ v) :=
  ⟨hg.os.trans hb.os, hg.tape.trans hb.tape, hg.output.trans hb.output, by have := hg.size; have := hb.size; simp [World.setCell]; omega, fun k hk hn => by
    have n1 : k ≠ b := fun e => hn (.inl e)
    have n2 : some k ≠ row := fun e => hn (.inr e.symm)
    rw [Below.heap_setCell _ _ _ _ n1, hg.block k (by have := hb.size; omega) n2, hb.block k hk]⟩

/-- The buses that come in are others now. -/
theorem NetIs.setIn {w w' : World} {q : NPl} {N : Nt} (h : NetIs w q N) {v : Value} {L : List Bus} (hk : Kept (fun k => k = q.b ∨ q.iv.ownBlock = some k) w w') (hbox : w'.heap[q.b]? = some (netBox { q with iv := v } N.name)) (hrow : BusRow w' v L)
    (hv : ∀ k, v.ownBlock = some k → q.iv.ownBlock = some k ∨ w.heap.size ≤ k) : NStep q w { q with iv := v } w' { N with ins := L } := by
  have hF : NoLits w (fun k => k = q.b ∨ q.iv.ownBlock = some k) := fun k c fz hp => h.noLits k c fz (by rcases hp with hp | hp; exact .inl hp; exact .inr (.inr (.inl hp)))
  refine ⟨⟨hbox, h.g.beside hk (fun k hp hg => ?_), hrow, own_keptF h.regs hk (fun k e hp => ?_), h.outs.keptF hk (fun k e hp => ?_) hF, fun k hk1 hk2 => ?_⟩, ?_, rfl, rfl, fun k hk => ?_⟩
  · rcases hp with hp | hp
    · exact (h.gFar hg).1 hp
    · exact (h.gFar hg).2.1 hp
  · rcases hp with rfl | hp
    · exact h.bFar.2.1 e
    · exact (h.rFar e).1 hp
  · rcases hp with rfl | hp
    · exact h.bFar.2.2 e
    · exact h.apart k hp e
  · rcases hv k hk1 with h1 | h1
    · exact h.apart k h1 hk2
    · have := h.has_lt (k := k) (.inr (.inr (.inr (.inr hk2)))); omega
  · exact ⟨hk.os, hk.tape, hk.output, hk.size, fun k hlt hn => hk.block k hlt (fun hp => hn (by rcases hp with hp | hp; exact .inl hp; exact .inr (.inr (.inl hp))))⟩
  · rcases hk with hk | hk | hk | hk | hk
    · exact .inl (.inl hk)
    · exact .inl (.inr (.inl hk))
    · rcases hv k hk with h1 | h1
      · exact .inl (.inr (.inr (.inl h1)))
      · exact .inr h1
    · exact .inl (.inr (.inr (.inr (.inl hk))))
    · exact .inl (.inr (.inr (.inr (.inr hk))))
theorem NetIs.setOut {w w' : World} {q : NPl} {N : Nt} (h : NetIs w q N) {v : Value} {L : List Bus} (hk : Kept (fun k => k = q.b ∨ q.ov.ownBlock = some k) w w') (hbox : w'.heap[q.b]? = some (netBox { q with ov := v } N.name)) (hrow : BusRow w' v L)
    (hv : ∀ k, v.ownBlock = some k → q.ov.ownBlock = some k ∨ w.heap.size ≤ k) : NStep q w { q with ov := v } w' { N with outs := L } := by
  have hF : NoLits w (fun k => k = q.b ∨ q.ov.ownBlock = some k) := fun k c fz hp => h.noLits k c fz (by rcases hp with hp | hp; exact .inl hp; exact .inr (.inr (.inr (.inr hp))))
  refine ⟨⟨hbox, h.g.beside hk (fun k hp hg => ?_), h.ins.keptF hk (fun k e hp => ?_) hF, own_keptF h.regs hk (fun k e hp => ?_), hrow, fun k hk1 hk2 => ?_⟩, ?_, rfl, rfl, fun k hk => ?_⟩
  · rcases hp with hp | hp
    · exact (h.gFar hg).1 hp
    · exact (h.gFar hg).2.2.2 hp
  · rcases hp with rfl | hp
    · exact h.bFar.1 e
    · exact h.apart k e hp
  · rcases hp with rfl | hp
    · exact h.bFar.2.1 e
    · exact (h.rFar e).2 hp
  · rcases hv k hk2 with h1 | h1
    · exact h.apart k hk1 h1
    · have := h.has_lt (k := k) (.inr (.inr (.inl hk1))); omega
  · exact ⟨hk.os, hk.tape, hk.output, hk.size, fun k hlt hn => hk.block k hlt (fun hp => hn (by rcases hp with hp | hp; exact .inl hp; exact .inr (.inr (.inr (.inr hp)))))⟩
  · rcases hk with hk | hk | hk | hk | hk
    · exact .inl (.inl hk)
    · exact .inl (.inr (.inl hk))
    · exact .inl (.inr (.inr (.inl hk)))
    · exact .inl (.inr (.inr (.inr (.inl hk))))
    · rcases hv k hk with h1 | h1
      · exact .inl (.inr (.inr (.inr (.inr h1))))
      · exact .inr h1
theorem NetIs.setRegs {w w' : World} {q : NPl} {N : Nt} (h : NetIs w q N) {v : Value} {R : List Rg} (hk : Kept (fun k => k = q.b ∨ q.rv.ownBlock = some k) w w') (hbox : w'.heap[q.b]? = some (netBox { q with rv := v } N.name)) (hrow : RegRow w' v R)
    (hv : ∀ k, v.ownBlock = some k → q.rv.ownBlock = some k ∨ w.heap.size ≤ k) : NStep q w { q with rv := v } w' { N with regs := R } := by
  have hF : NoLits w (fun k => k = q.b ∨ q.rv.ownBlock = some k) := fun k c fz hp => h.noLits k c fz (by rcases hp with hp | hp; exact .inl hp; exact .inr (.inr (.inr (.inl hp))))
  refine ⟨⟨hbox, h.g.beside hk (fun k hp hg => ?_), h.ins.keptF hk (fun k e hp => ?_) hF, hrow, h.outs.keptF hk (fun k e hp => ?_) hF, h.apart⟩, ?_, rfl, rfl, fun k hk => ?_⟩
  · rcases hp with hp | hp
    · exact (h.gFar hg).1 hp
    · exact (h.gFar hg).2.2.1 hp
  · rcases hp with rfl | hp
    · exact h.bFar.1 e
    · exact (h.rFar hp).1 e
  · rcases hp with rfl | hp
    · exact h.bFar.2.2 e
    · exact (h.rFar hp).2 e
  · exact ⟨hk.os, hk.tape, hk.output, hk.size, fun k hlt hn => hk.block k hlt (fun hp => hn (by rcases hp with hp | hp; exact .inl hp; exact .inr (.inr (.inr (.inl hp)))))⟩
  · rcases hk with hk | hk | hk | hk | hk
    · exact .inl (.inl hk)
    · exact .inl (.inr (.inl hk))
    · exact .inl (.inr (.inr (.inl hk)))
    · rcases hv k hk with h1 | h1
      · exact .inl (.inr (.inr (.inr (.inl h1))))
      · exact .inr h1
    · exact .inl (.inr (.inr (.inr (.inr hk))))

/-- A row of buses behind an append, and a store elsewhere. -/
theorem push_row {wS wa w1 : World} {b : Nat} {cs : Array Value} {fz : Nat × Nat} (hbb : wS.heap[b]? = some (.cells cs 69 fz)) (hb : Below wS.heap.size wS wa) {v : Value} {L : List Bus} {K : List BV} (hK : BusAt wS v L K) {s : ByteArray} {la : Option Addr} {m lc : Nat} {l : List Int}
    (hl : LRow wa la m lc l) {g cap : Nat} (hown : w1.ownsRow 0 81 2 (.slice (some ⟨g, 0, none⟩) (L.length + 1) cap) (L.length + 1) (bvCells K ++ [.string s, .slice la m lc]))
    (hg : wa.grownBy w1 v.ownBlock) (hat : v.ownBlock = some g ∨ g = wa.heap.size) (o : Nat) (x : Value) :
    BusRow (w1.setCell ⟨b, o, none⟩ x) (.slice (some ⟨g, 0, none⟩) (L.length + 1) cap) (L ++ [⟨s, l⟩]) ∧ w1.heap[b]? = some (.cells cs 69 fz) := by
  have hlt := (Array.getElem?_eq_some_iff.1 hbb).1
  have hvt : ∀ k, v.ownBlock = some k → ∃ c, wS.heap[k]? = some (.cells c 81 (0, 0)) := fun k hk => own_type hK.own hk
  have hvb : v.ownBlock ≠ some b := fun e => by obtain ⟨c, hc⟩ := hvt b e; rw [hbb] at hc; simp at hc
  have hgb : g ≠ b := by
    rcases hat with h | h
    · rintro rfl; exact hvb h
    · have := hb.size; omega
  have hNS : NoLits wS (fun k => k = b ∨ v.ownBlock = some k) := by
    intro k c fz2 hp hh
    rcases hp with rfl | hp
    · rw [hbb] at hh; simp at hh
    · obtain ⟨c2, hc2⟩ := hvt k hp; rw [hc2] at hh; simp at hh
  have hNa : NoLits wa (fun k => k = b ∨ v.ownBlock = some k) := by
    intro k c fz2 hp hh
    rcases hp with rfl | hp
    · rw [hb.block _ hlt, hbb] at hh; simp at hh
    · obtain ⟨c2, hc2⟩ := hvt k hp; rw [hb.block _ (Array.getElem?_eq_some_iff.1 hc2).1, hc2] at hh; simp at hh
  have kS := kept_store hb hg b o x
  have ka := kept_store (Below.refl wa.heap.size wa) hg b o x
  refine ⟨⟨K ++ [⟨s, la, m, lc⟩], ?_, by simp [hK.len], ?_⟩, ?_⟩
  · rw [bvCells_push]
    have : (w1.setCell ⟨b, o, none⟩ x).ownsRow 0 81 2 (.slice (some ⟨g, 0, none⟩) (L.length + 1) cap) (L.length + 1) (bvCells K ++ [.string s, .slice la m lc]) := by
      refine ⟨hown.1, ?_⟩
      rcases hown.2 with h0 | ⟨g', cap', cur', hv', hg', hh, r⟩
      · exact .inl h0
      · simp at hv'
        obtain ⟨rfl, rfl⟩ := hv'
        exact .inr ⟨_, _, cur', rfl, hg', by rw [Below.heap_setCell _ _ _ _ hgb]; exact hh, r⟩
    simpa using this
  · intro i k bb e1 e2
    by_cases hi : i < K.length
    · rw [List.getElem?_append_left hi] at e1
      rw [List.getElem?_append_left (by rw [← hK.len]; exact hi)] at e2
      obtain ⟨r1, r2⟩ := hK.row i k bb e1 e2
      exact ⟨r1, r2.keptF kS hNS⟩
    · have hlen := hK.len
      have hi2 := (List.getElem?_eq_some_iff.1 e1).1
      simp at hi2
      have e : i = K.length := by omega
      rw [e, List.getElem?_append_right (Nat.le_refl _)] at e1
      rw [e, hlen, List.getElem?_append_right (Nat.le_refl _)] at e2
      simp at e1 e2
      subst e1 e2
      exact ⟨rfl, hl.keptF ka hNa⟩
  · rw [hg.block b (by have := hb.size; omega) (fun e => hvb e.symm), hb.block _ hlt]; exact hbb
theorem new_block {wa : World} {v : Value} {g n cap : Nat} {W : World} (hb : Below W.heap.size W wa) (hat : v.ownBlock = some g ∨ g = wa.heap.size) : ∀ k, (Value.slice (some ⟨g, 0, none⟩) n cap).ownBlock = some k → v.ownBlock = some k ∨ W.heap.size ≤ k := by
  intro k hk
  simp [Value.ownBlock] at hk
  subst hk
  rcases hat with h | h
  · exact .inl h
  · have := hb.size; exact .inr (by omega)
/-- A bus more, that comes in. -/
theorem in_push {wS wa w1 : World} {q : NPl} {N : Nt} (h : NetIs wS q N) (hb : Below wS.heap.size wS wa) {K : List BV} (hK : BusAt wS q.iv N.ins K) {s : ByteArray} {la : Option Addr} {m lc : Nat} {l : List Int}
    (hl : LRow wa la m lc l) {g cap : Nat} (hown : w1.ownsRow 0 81 2 (.slice (some ⟨g, 0, none⟩) (N.ins.length + 1) cap) (N.ins.length + 1) (bvCells K ++ [.string s, .slice la m lc]))
    (hg : wa.grownBy w1 q.iv.ownBlock) (hat : q.iv.ownBlock = some g ∨ g = wa.heap.size) :
    ∃ q', NStep q wS q' (w1.setCell ⟨q.b, 2, none⟩ (.slice (some ⟨g, 0, none⟩) (N.ins.length + 1) cap)) { N with ins := N.ins ++ [⟨s, l⟩] } := by
  obtain ⟨r1, r2⟩ := push_row h.box hb hK hl hown hg hat 2 (.slice (some ⟨g, 0, none⟩) (N.ins.length + 1) cap)
  refine ⟨_, h.setIn (kept_store hb hg q.b 2 _) ?_ r1 (new_block hb hat)⟩
  have := box_set (o := 2) r2 (.slice (some ⟨g, 0, none⟩) (N.ins.length + 1) cap)
  simpa [netBox] using this
/-- A bus more, that goes out. -/
theorem out_push {wS wa w1 : World} {q : NPl} {N : Nt} (h : NetIs wS q N) (hb : Below wS.heap.size wS wa) {K : List BV} (hK : BusAt wS q.ov N.outs K) {s : ByteArray} {la : Option Addr} {m lc : Nat} {l : List Int}
    (hl : LRow wa la m lc l) {g cap : Nat} (hown : w1.ownsRow 0 81 2 (.slice (some ⟨g, 0, none⟩) (N.outs.length + 1) cap) (N.outs.length + 1) (bvCells K ++ [.string s, .slice la m lc]))
    (hg : wa.grownBy w1 q.ov.ownBlock) (hat : q.ov.ownBlock = some g ∨ g = wa.heap.size) :
    ∃ q', NStep q wS q' (w1.setCell ⟨q.b, 4, none⟩ (.slice (some ⟨g, 0, none⟩) (N.outs.length + 1) cap)) { N with outs := N.outs ++ [⟨s, l⟩] } := by
  obtain ⟨r1, r2⟩ := push_row h.box hb hK hl hown hg hat 4 (.slice (some ⟨g, 0, none⟩) (N.outs.length + 1) cap)
  refine ⟨_, h.setOut (kept_store hb hg q.b 4 _) ?_ r1 (new_block hb hat)⟩
  have := box_set (o := 4) r2 (.slice (some ⟨g, 0, none⟩) (N.outs.length + 1) cap)
  simpa [netBox] using this
/-- A register more. -/
theorem reg_push {wS wa w1 : World} {q : NPl} {N : Nt} (h : NetIs wS q N) (hb : Below wS.heap.size wS wa) (r : Rg) {g cap : Nat}
    (hown : w1.ownsRow 0 71 4 (.slice (some ⟨g, 0, none⟩) (N.regs.length + 1) cap) (N.regs.length + 1) (rgCells N.regs ++ [.int .u32 r.q, .int .u32 r.d, .int .u32 r.en, .bool r.init]))
    (hg : wa.grownBy w1 q.rv.ownBlock) (hat : q.rv.ownBlock = some g ∨ g = wa.heap.size) :
    ∃ q', NStep q wS q' (w1.setCell ⟨q.b, 3, none⟩ (.slice (some ⟨g, 0, none⟩) (N.regs.length + 1) cap)) { N with regs := N.regs ++ [r] } := by
  have hgb : g ≠ q.b := by
    rcases hat with h1 | h1
    · rintro rfl; exact h.bFar.2.1 h1
    · have := hb.size; have := h.lt; omega
  have hbox : w1.heap[q.b]? = some (netBox q N.name) := by rw [hg.block q.b (by have := hb.size; have := h.lt; omega) (fun e => h.bFar.2.1 e.symm), hb.block _ h.lt]; exact h.box
  refine ⟨_, h.setRegs (v := .slice (some ⟨g, 0, none⟩) (N.regs.length + 1) cap) (kept_store hb hg q.b 3 _) ?_ ?_ (new_block hb hat)⟩
  · have := box_set (o := 3) hbox (.slice (some ⟨g, 0, none⟩) (N.regs.length + 1) cap)
    simpa [netBox] using this
  · unfold RegRow
    rw [rgCells_push, List.length_append]
    refine ⟨hown.1, ?_⟩
    rcases hown.2 with h0 | ⟨g', cap', cur', hv', hg', hh, r⟩
    · exact .inl h0
    · simp at hv'
      obtain ⟨rfl, rfl⟩ := hv'
      exact .inr ⟨_, _, cur', rfl, hg', by rw [Below.heap_setCell _ _ _ _ hgb]; exact hh, r⟩

/-- A new netlist. -/
theorem New_ok (F H : Bool) {s : ByteArray} (hs : mayName s = true) (w : World) :
    Calls Tryz.prog 32 #[.string s, .agg #[.bool F, .bool H]] w fun e w' => ∃ q : NPl, e = .returned (.tuple #[.pointer (some ⟨q.b, 0, none⟩), .int .i64 0]) ∧ NetIs w' q ⟨newG F H, s, [], [], []⟩ ∧ Below w.heap.size w w' ∧ ∀ k, q.has k → w.heap.size ≤ k := by
  have hb : Below w.heap.size w (w.alloc (.cells #[.bool F, .bool H] 23)) := (Below.refl _ _).alloc (Nat.le_refl _) _
  have hm := Lib.hid (fun w => MayName_any s w)
  rw [hs] at hm
  have hz : (w.alloc (.cells #[.bool F, .bool H] 23)).heap.size = w.heap.size + 1 := by simp
  have c0 : (w.alloc (.cells #[.bool F, .bool H] 23)).cell? ⟨w.heap.size, 0, none⟩ = some (.bool F) := by simp [go_sem]
  have c1 : (w.alloc (.cells #[.bool F, .bool H] 23)).cell? ⟨w.heap.size, 1, none⟩ = some (.bool H) := by simp [go_sem]
  have hnew := Lib.hid (fun w => new_any F H w)
  have hb := Lib.hid hb
  clear hs
  go_enter Tryz.func32, Tryz.ntmps32
  go_wp2_with (first
    | (go_at_call 43; (with_reducible refine (hm.out _).mono ?_); rintro e w2 ⟨rfl, hb2⟩; have d0 := stepc hb2 (by omega) c0; have d1 := stepc hb2 (by omega) c1; clear c0 c1)
    | (go_at_call 66; (with_reducible refine (hnew.out _).mono ?_); rintro e w3 ⟨p, rfl, hI, hb3, hout⟩))
  go_ret2
  have hw := nextw hb.out hb2
  have hb4 : ∀ o, Below w3.heap.size w3 (w3.alloc o) := fun o => (Below.refl _ _).alloc (Nat.le_refl _) _
  refine ⟨⟨w3.heap.size, p, .slice none 0 0, .slice none 0 0, .slice none 0 0⟩, rfl, ⟨Deep.blk_alloc_new _ _, hI.below (hb4 _), BusRow.nil _, ⟨rfl, .inl ⟨rfl, rfl⟩⟩, BusRow.nil _, fun k hk => by simp [Value.ownBlock] at hk⟩, (nextw hw hb3).alloc (nextw hw hb3).size _, ?_⟩
  intro k hk
  have := hw.size
  rcases hk with rfl | hk | hk | hk | hk
  · exact (nextw hw hb3).size
  · have := hout k hk; omega
  · simp [Value.ownBlock] at hk
  · simp [Value.ownBlock] at hk
  · simp [Value.ownBlock] at hk
end Go.Proofs.YtlkainmkhofpaaaGreat
end

section
namespace Go.Proofs.YtlkainmkhofpaaaGreat
open Go.RowKit Go.Maps
set_option maxRecDepth 100000

theorem news_list (w : World) (cs : List Value) (T : Nat) : ∀ (j : Nat) (u : Value), cs[j]? = some u → (w.alloc (.cells cs.toArray T)).cell? ((⟨w.heap.size, 0, none⟩ : Addr).add j) = some u := by
  intro j u h
  rw [show (⟨w.heap.size, 0, none⟩ : Addr).add j = ⟨w.heap.size, j, none⟩ by simp [Addr.add]; omega]
  rw [World.cell?_alloc_mark]
  simpa using h
theorem netBox_far {w : World} {q : NPl} {N : Nt} (h : NetIs w q N) {v : Value} (hv : v = q.iv ∨ v = q.rv ∨ v = q.ov) : some q.b ≠ v.ownBlock := by
  obtain ⟨h1, h2, h3⟩ := h.bFar
  rcases hv with rfl | rfl | rfl
  · exact fun e => h1 e.symm
  · exact fun e => h2 e.symm
  · exact fun e => h3 e.symm

set_option maxHeartbeats 1000000 in
theorem AddReg_any {w : World} {q : NPl} {N : Nt} (h : NetIs w q N) (hW : Wf N.g) (hm : N.g.nodes.length ≤ 190000) (hr : N.regs.length ≤ 10000) (i : Bool) :
    Calls Tryz.prog 70 #[.pointer (some ⟨q.b, 0, none⟩), .bool i] w fun e w' => e = .returned (.tuple #[.int .u32 (2 * (N.g.nodes.length : Int)), .int .i64 0]) ∧ ∃ q', NStep q w q' w' (addReg N i).1 := by
  have hst := Lib.hid (nstands_any h hW.pos)
  have hin := Lib.hid (Input_any h.g hW (by omega))
  obtain ⟨ia, ic, ra, rc, oa, oc, -, -, -, c0, -, -, c3, -, -⟩ := h.cells
  have hpush := Lib.hid (fun (p' : Pl) (w2 : World) (hS : Step q.g w p' w2 (inputG N.g)) => h.grow hS)
  obtain ⟨i0, hi, hz0, hz1, hz2⟩ := info_parts info_reg
  have hg0 : decide (16384 ≤ (N.regs.length : Int)) = false := by simp; omega
  unfold addReg
  generalize 2 * (N.g.nodes.length : Int) = x at *
  clear h hW hm
  go_enter Tryz.func70, Tryz.ntmps70
  go_wp2_with (first
    | (go_at_call 39; (with_reducible refine hst.out.mono ?_); rintro e w2 ⟨rfl, rfl⟩)
    | (go_at_call 48; (with_reducible refine hin.out.mono ?_); rintro e w2 ⟨rfl, p', hS⟩; have hP := Lib.hid (hpush.out _ _ hS); clear hS hin hpush c0 c3; obtain ⟨ja, jc, sa, sc, ta, tc, -, ev, -, d0, -, -, d3, -, fz⟩ := hP.out.is.cells; have f3 := fz 3; clear fz; have hne := netBox_far hP.out.is (v := .slice sa N.regs.length sc) (.inr (.inl ev.symm)); have hrow : Hid (w2.ownsRow 0 71 4 (.slice sa N.regs.length sc) N.regs.length (rgCells N.regs)) := (by have := hP.out.is.regs; unfold RegRow at this; rw [ev] at this; exact this); have hlb := hP.out.is.lt; simp only [] at d0 d3 f3 hne hlb)
    | (at_builtin; refine wpList_append_lies _ rfl (.tmp 32) (.tmp 36) 67 rfl 0 71 i0 (.agg #[.int .u32 0, .int .u32 0, .int .u32 0, .bool false]) 4 16 Tryz.underlying67 hi hz0 hz1 hz2 rfl (by decide) (.slice sa N.regs.length sc) N.regs.length (rgCells N.regs) rfl (hrow.out.alloc _) ⟨w2.heap.size, 0, none⟩ 1 1 [.int .u32 x, .int .u32 0, .int .u32 0, .bool i] rfl rfl (news_list _ _ _) (by simp [Value.oneCell']) (by decide) (by unfold maxLen; omega) (by omega) (by simp) _ rfl ?_; intro g1 cap1 w7 hown1 hgrow1 hat1 hlt1; obtain ⟨x0, x1⟩ := grow_box hgrow1 (b := q.b) (o := 3) (v := .slice sa N.regs.length sc) (by go_simp) (by go_simp) hne))
  go_ret2
  rw [← ev] at hgrow1 hat1
  obtain ⟨q', hq⟩ := reg_push hP.out.is ((Below.refl _ _).alloc (Nat.le_refl _) _) ⟨x, 0, 0, i⟩ hown1 hgrow1 hat1
  exact ⟨rfl, q', hP.out.trans hq⟩

theorem rgCells_set (R : List Rg) (i : Nat) (d en : Int) : rgCells (R.modify i (setRg d en)) = ((rgCells R).set (i * 4 + 1) (.int .u32 d)).set (i * 4 + 2) (.int .u32 en) := by
  induction R generalizing i with
  | nil => simp [rgCells]
  | cons r R ih =>
    cases i with
    | zero => simp [rgCells, rgc, setRg]
    | succ i =>
      rw [List.modify_succ_cons, show rgCells (r :: R.modify i (setRg d en)) = rgc r ++ rgCells (R.modify i (setRg d en)) from rfl, ih, show rgCells (r :: R) = rgc r ++ rgCells R from rfl]
      rw [List.set_append_right _ _ (by simp [rgc]; omega), List.set_append_right _ _ (by simp [rgc]; omega)]
      rw [show (i + 1) * 4 + 1 - (rgc r).length = i * 4 + 1 by simp [rgc]; omega, show (i + 1) * 4 + 2 - (rgc r).length = i * 4 + 2 by simp [rgc]; omega]
/-- A register's D and En are others now. -/
theorem reg_set {w : World} {q : NPl} {N : Nt} (h : NetIs w q N) {g rc n : Nat} (hv : q.rv = .slice (some ⟨g, 0, none⟩) n rc) (i : Nat) (d en : Int) :
    NStep q w q ((w.setCell ⟨g, i * 4 + 1, none⟩ (.int .u32 d)).setCell ⟨g, i * 4 + 2, none⟩ (.int .u32 en)) { N with regs := N.regs.modify i (setRg d en) } := by
  have hr := h.regs
  unfold RegRow at hr
  rw [hv] at hr
  obtain ⟨a2, c2, e⟩ := own_slice hr
  simp only [Value.slice.injEq] at e
  obtain ⟨-, rfl, -⟩ := e
  have h1 := hr.stored (i * 4 + 1) (.int .u32 d)
  have h2 := h1.1.stored (i * 4 + 2) (.int .u32 en)
  have hg2 := h1.2.trans h2.2
  have hgb : g ≠ q.b := by
    rintro rfl
    exact h.bFar.2.1 (by rw [hv]; rfl)
  have hk : Kept (fun k => k = q.b ∨ q.rv.ownBlock = some k) w ((w.setCell ⟨g, i * 4 + 1, none⟩ (.int .u32 d)).setCell ⟨g, i * 4 + 2, none⟩ (.int .u32 en)) :=
    ⟨hg2.os, hg2.tape, hg2.output, hg2.size, fun k hlt hn => hg2.block k hlt (fun e => hn (.inr (by rw [hv]; simpa [Value.ownBlock] using e.symm)))⟩
  have := h.setRegs (v := q.rv) (R := N.regs.modify i (setRg d en)) hk (by
    rw [hg2.block _ h.lt (by simpa using fun e => hgb e.symm)]; exact h.box) (by
    unfold RegRow
    rw [rgCells_set, hv, List.length_modify]
    exact h2.1) (fun k hk => .inl hk)
  exact this

set_option maxHeartbeats 1000000 in
theorem SetReg_any {w : World} {q : NPl} {N : Nt} (h : NetIs w q N) (hW : Wf N.g) (x d en : Int) (hd : IsLit d) (he : IsLit en) :
    Calls Tryz.prog 71 #[.pointer (some ⟨q.b, 0, none⟩), .int .u32 x, .int .u32 d, .int .u32 en] w fun e w' => e = .returned (.int .i64 (setReg N x d en).2) ∧ ∃ q', NStep q w q' w' (setReg N x d en).1 := by
  have hb : Below w.heap.size w (w.alloc (.cells #[.int .u32 x] 40)) := (Below.refl _ _).alloc (Nat.le_refl _) _
  have h1 := h.below hb
  have hst := Lib.hid (nstands_any h1 hW.pos)
  obtain ⟨ia, ic, ra, rc, oa, oc, -, ev, -, c0, -, -, c3, -, fz⟩ := h1.cells
  have hlb := h1.lt
  have hix := Lib.hid (idxReg_any (a := ra) (n := N.regs.length) (c := rc) (by have := h1.regs; rw [ev] at this; exact this) rfl (q := w.heap.size) (x := x) (by simp) (by simp [go_sem]))
  have hhas := Lib.hid (fun w2 (hb2 : Below (w.alloc (.cells #[.int .u32 x] 40)).heap.size (w.alloc (.cells #[.int .u32 x] 40)) w2) => has_any ((h1.below hb2).below ((Below.refl w2.heap.size w2).alloc (Nat.le_refl _) (.cells #[.int .u32 d, .int .u32 en] 40))) hW.pos (c := 2) (row2 w2 d en 40) (by intro y hy; simp at hy; rcases hy with rfl | rfl <;> assumption))
  have hfin := Lib.hid (fun w2 (hb2 : Below (w.alloc (.cells #[.int .u32 x] 40)).heap.size (w.alloc (.cells #[.int .u32 x] 40)) w2) => NStep.front h hb (NStep.of_below h1 hb2))
  have hrg := Lib.hid h1.regs
  unfold setReg
  cases e : regAt N.regs x with
  | none =>
    rw [e] at hix
    change Hid (Calls _ _ _ _ fun e w' => e = .returned (.int .i64 (-1)) ∧ _) at hix
    clear h h1 hb
    go_enter Tryz.func71, Tryz.ntmps71
    go_wp2_with (first
      | (go_at_call 39; (with_reducible refine hst.out.mono ?_); rintro e w2 ⟨rfl, rfl⟩)
      | (go_at_call 105; (with_reducible refine hix.out.mono ?_); rintro e w2 ⟨rfl, hb2⟩))
    go_ret
    exact ⟨rfl, _, hfin.out _ hb2⟩
  | some j =>
    rw [e] at hix
    change Hid (Calls _ _ _ _ fun e w' => e = .returned (.int .i64 (j : Int)) ∧ _) at hix
    have hj : j < N.regs.length := by
      unfold regAt at e
      exact (List.findIdx?_eq_some_iff_getElem.1 e).1
    have g0 : decide ((j : Int) < 0) = false := by simp
    by_cases hh : allHas N.g [d, en] = true
    · rw [hh] at hhas
      simp only [hh, if_true]
      obtain ⟨g, rfl, hgl, b0, b1, b2, b3⟩ := RegRow.at (a := ra) (c := rc) (by have := h1.regs; rw [ev] at this; exact this) hj
      have hfz : ∀ o, (w.alloc (.cells #[.int .u32 x] 40)).frozen? ⟨g, o, none⟩ = false := fun o => by
        have := h1.regs
        unfold RegRow at this
        rw [ev] at this
        exact this.frozenAt o
      have hset := Lib.hid (fun w3 (hb3 : Below (w.alloc (.cells #[.int .u32 x] 40)).heap.size (w.alloc (.cells #[.int .u32 x] 40)) w3) => (NStep.front h hb (NStep.of_below h1 hb3)).trans (reg_set (h1.below hb3) ev j d en))
      have hdr := Lib.hid (fun w3 => below_draws w3)
      generalize N.regs[j].q = r0 at *
      generalize N.regs[j].d = r1 at *
      generalize N.regs[j].en = r2 at *
      have hjn : j < N.regs.length := hj
      clear h h1 hb b0 b3 hrg hfin e hj hd he
      generalize N.regs.length = n at *
      generalize hw1 : w.alloc (.cells #[.int .u32 x] 40) = w1 at *
      have hdr := Lib.hid (fun (w3 : World) (k : Nat) => below_draws w3 k)
      go_enter Tryz.func71, Tryz.ntmps71
      go_wp2_with (first
        | (go_at_call 39; (with_reducible refine hst.out.mono ?_); rintro e w2 ⟨rfl, rfl⟩)
        | (go_at_call 105; (with_reducible refine hix.out.mono ?_); rintro e w2 ⟨rfl, hb2⟩; have hh2 := Lib.hid (hhas.out _ hb2))
        | (go_at_call 45; (with_reducible refine hh2.out.mono ?_); rintro e w3 ⟨rfl, hb3⟩; have hb4 := nextw hb2 (nextw ((Below.refl _ _).alloc (Nat.le_refl _) _) hb3); have d3 := stepc hb4 hlb c3; have e1 := stepc hb4 hgl b1; have e2 := stepc hb4 hgl b2; have f1 := (bcell hb4).2 g (j * 4 + 1) hgl; rw [hfz] at f1; have f2 := (bcell hb4).2 g (j * 4 + 2) hgl; rw [hfz] at f2; have hb4 := Lib.hid hb4; clear hb3 hb2 hh2))
      go_region_law (fail)
      all_goals go_wp2
      all_goals go_ret
      all_goals exact ⟨rfl, _, (hset.out w3 hb4.out).then ((Below.refl _ _).drew)⟩
    · have hh' : allHas N.g [d, en] = false := by simpa using hh
      rw [hh'] at hhas
      simp only [hh', if_neg (show ¬ (false = true) by simp)]
      have hjn : j < N.regs.length := hj
      clear h h1 hb hrg e hj hd he hh
      generalize N.regs.length = n at *
      generalize hw1 : w.alloc (.cells #[.int .u32 x] 40) = w1 at *
      go_enter Tryz.func71, Tryz.ntmps71
      go_wp2_with (first
        | (go_at_call 39; (with_reducible refine hst.out.mono ?_); rintro e w2 ⟨rfl, rfl⟩)
        | (go_at_call 105; (with_reducible refine hix.out.mono ?_); rintro e w2 ⟨rfl, hb2⟩; have hh2 := Lib.hid (hhas.out _ hb2))
        | (go_at_call 45; (with_reducible refine hh2.out.mono ?_); rintro e w3 ⟨rfl, hb3⟩; have hb4 := nextw hb2 (nextw ((Below.refl _ _).alloc (Nat.le_refl _) _) hb3)))
      go_ret
      exact ⟨rfl, _, hfin.out _ hb4⟩
end Go.Proofs.YtlkainmkhofpaaaGreat
end
