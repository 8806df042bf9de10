/-
  A new graph; a new input.
-/
import Derived.Test.YtjdebancpgpebaaAigI
import Derived.Deep.Heap
namespace Go.Proofs.Ytjdebancpgpebaa
open Go.RowKit Go.Maps
set_option maxRecDepth 100000

theorem lay_new {w : World} {N : Nat} {F H : Bool} {m : Option Nat} (h1 : w.heap[N + 1]? = some (.cells #[.bool false, .int .u32 0, .int .u32 0] 98 (0, 0)))
    (h2 : w.heap[N + 1 + 1]? = some (.cells #[.bool F, .bool H, .slice (some ⟨N + 1, 0, none⟩) 1 1, .slice none 0 0, .map m] 92 (0, 0))) :
    Lay w ⟨N + 1 + 1, N + 1, 1, .slice none 0 0, m⟩ F H [⟨false, 0, 0⟩] [] :=
  ⟨h2, ⟨rfl, .inr ⟨N + 1, 1, _, rfl, Nat.zero_le _, h1, Nat.le_refl _, by decide, rfl, rfl⟩⟩, ⟨rfl, .inl ⟨rfl, rfl⟩⟩⟩
theorem mapOf_nil : MapOf [⟨false, 0, 0⟩] (.map []) := by
  refine ⟨isMap_empty, fun a b _ _ => ⟨?_, fun i hi => ?_⟩⟩
  · rfl
  · cases hi
theorem alloc_get (w : World) (o : Obj) {N : Nat} (h : N = w.heap.size) : (w.alloc o).heap[N]? = some o := by subst h; exact Deep.blk_alloc_new w o
theorem alloc_old (w : World) (o : Obj) {N : Nat} {x : Option Obj} (hx : w.heap[N]? = x) (h : N < w.heap.size) : (w.alloc o).heap[N]? = x := (Deep.blk_alloc_lt w o N h).trans hx

theorem new_false (F : Bool) (w : World) :
    Calls Try.prog 21 #[.agg #[.bool F, .bool false]] w fun e w' => ∃ p : Pl, e = .returned (.pointer (some ⟨p.b, 0, none⟩)) ∧ Is w' p (newG F false) ∧ Below w.heap.size w w' ∧ ∀ k, p.has k → w.heap.size ≤ k := by
  go_enter Try.func21, Try.ntmps21
  go_wp2
  go_ret
  refine ⟨⟨w.heap.size + 1 + 1, w.heap.size + 1, 1, .slice none 0 0, none⟩, rfl, ⟨lay_new (alloc_old _ _ (alloc_get _ _ (by simp)) (by simp)) (alloc_get _ _ (by simp)), by unfold MapIn; rfl⟩, (((Below.refl _ _).alloc (Nat.le_refl _) _).alloc (by simp) _).alloc (by simp; omega) _, ?_⟩
  rintro k (h | h | h | h) <;> simp [Value.ownBlock] at h <;> omega
theorem new_true (F : Bool) (w : World) :
    Calls Try.prog 21 #[.agg #[.bool F, .bool true]] w fun e w' => ∃ p : Pl, e = .returned (.pointer (some ⟨p.b, 0, none⟩)) ∧ Is w' p (newG F true) ∧ Below w.heap.size w w' ∧ ∀ k, p.has k → w.heap.size ≤ k := by
  have hmm := @run_makeMap Try.prog
  go_enter Try.func21, Try.ntmps21
  go_wp2
  go_ret
  refine ⟨⟨w.heap.size + 1 + 1, w.heap.size + 1, 1, .slice none 0 0, some (w.heap.size + 1 + 1 + 1)⟩, rfl, ⟨lay_new (alloc_old _ _ (alloc_old _ _ (alloc_get _ _ (by simp)) (by simp)) (by simp)) (alloc_old _ _ (alloc_get _ _ (by simp)) (by simp)), ?_⟩, ((((Below.refl _ _).alloc (Nat.le_refl _) _).alloc (by simp) _).alloc (by simp; omega) _).alloc (by simp; omega) _, ?_⟩
  · unfold MapIn
    rw [if_pos (show (newG F true).hash = true from rfl)]
    refine ⟨w.heap.size + 1 + 1 + 1, .map [], rfl, ?_, mapOf_nil⟩
    have := (World.ownsMap_made (H := Unit) (((w.alloc (Obj.cells #[Value.bool F, Value.bool true] 23)).alloc (Obj.cells #[Value.bool false, Value.int IntKind.u32 0, Value.int IntKind.u32 0] 98)).alloc (Obj.cells #[Value.bool F, Value.bool true, Value.slice (some { block := w.heap.size + 1, off := 0 }) 1 1, Value.slice none 0 0, Value.map (some (w.heap.size + 1 + 1 + 1))] 92)) Try.prog 96 (plainElem Try.prog 50)).mono (Nat.zero_le 1)
    simpa [newG] using this
  · rintro k (h | h | h | h) <;> simp [Value.ownBlock] at h <;> omega
theorem new_any (F H : Bool) (w : World) :
    Calls Try.prog 21 #[.agg #[.bool F, .bool H]] w fun e w' => ∃ p : Pl, e = .returned (.pointer (some ⟨p.b, 0, none⟩)) ∧ Is w' p (newG F H) ∧ Below w.heap.size w w' ∧ ∀ k, p.has k → w.heap.size ≤ k := by
  cases H
  · exact new_false F w
  · exact new_true F w

/-- Behind the append and the store of the inputs. -/
theorem in_next {w wa w1 : World} {p : Pl} {F H : Bool} {ns : List Nd} {ins : List Int} (hL : Lay w p F H ns ins) (hb : Below w.heap.size w wa) (x : Int) {g cap : Nat}
    (hown : w1.ownsRow 0 3 1 (.slice (some ⟨g, 0, none⟩) (ins.length + 1) cap) (ins.length + 1) (ins.map (Value.int .i64) ++ [.int .i64 x]))
    (hg : wa.grownBy w1 p.iv.ownBlock) (hat : p.iv.ownBlock = some g ∨ g = wa.heap.size) :
    Lay (w1.setCell ⟨p.b, 3, none⟩ (.slice (some ⟨g, 0, none⟩) (ins.length + 1) cap)) { p with iv := .slice (some ⟨g, 0, none⟩) (ins.length + 1) cap } F H ns (ins ++ [x])
      ∧ Kept p.has w (w1.setCell ⟨p.b, 3, none⟩ (.slice (some ⟨g, 0, none⟩) (ins.length + 1) cap)) ∧ (p.iv.ownBlock = some g ∨ w.heap.size ≤ g) ∧ ∀ (m : Nat) (es : Array MapEntry) (cl : Nat), w.heap[m]? = some (.map es cl) → (w1.setCell ⟨p.b, 3, none⟩ (.slice (some ⟨g, 0, none⟩) (ins.length + 1) cap)).heap[m]? = w.heap[m]? := by
  have hlt := hL.lt
  have hnlt := hL.nlt
  have hsz := hb.size
  obtain ⟨cur, hcur⟩ := hL.nlen
  have hib : ∀ k, p.iv.ownBlock = some k → ∃ c, w.heap[k]? = some (.cells c 3 (0, 0)) := fun k hk => own_type hL.inputs hk
  have nb : some p.b ≠ p.iv.ownBlock := fun e => by
    obtain ⟨c, hc⟩ := hib p.b e.symm
    rw [hL.box] at hc; simp [boxOf] at hc
  have nn : some p.nb ≠ p.iv.ownBlock := fun e => by
    obtain ⟨c, hc⟩ := hib p.nb e.symm
    rw [hcur] at hc; simp at hc
  have hne : p.nb ≠ p.b := by
    intro e
    have := hL.box
    rw [← e, hcur] at this; simp [boxOf] at this
  have hgb : g ≠ p.b := by
    rcases hat with h | h
    · exact fun e => nb (by rw [h, e])
    · omega
  have hbox1 : w1.heap[p.b]? = some (boxOf p F H ns.length) := by
    rw [hg.block p.b (by omega) nb, hb.block _ hlt]; exact hL.box
  refine ⟨⟨?_, ?_, ?_⟩, ?_, ?_, ?_⟩
  · have := box_set (o := 3) hbox1 (.slice (some ⟨g, 0, none⟩) (ins.length + 1) cap)
    simpa [boxOf, Pl.nv] using this
  · refine ⟨hL.nodes.1, ?_⟩
    rcases hL.nodes.2 with h0 | ⟨g', cap', cur', hv, hg', hh, r⟩
    · exact .inl h0
    · have e : g' = p.nb := by simp [Pl.nv] at hv; exact hv.1.symm
      subst e
      exact .inr ⟨_, cap', cur', hv, hg', by rw [Below.heap_setCell _ _ _ _ hne, hg.block _ (by omega) nn, hb.block _ hnlt]; exact hh, r⟩
  · have : (w1.setCell ⟨p.b, 3, none⟩ (.slice (some ⟨g, 0, none⟩) (ins.length + 1) cap)).ownsRow 0 3 1 (.slice (some ⟨g, 0, none⟩) (ins.length + 1) cap) (ins.length + 1) (ins.map (Value.int .i64) ++ [.int .i64 x]) := by
      refine ⟨hown.1, ?_⟩
      rcases hown.2 with h0 | ⟨g', cap', cur', hv, hg', hh, r⟩
      · exact .inl h0
      · simp at hv
        obtain ⟨rfl, rfl⟩ := hv
        exact .inr ⟨_, _, cur', rfl, hg', by rw [Below.heap_setCell _ _ _ _ hgb]; exact hh, r⟩
    simpa using this
  · refine ⟨hg.os.trans hb.os, hg.tape.trans hb.tape, hg.output.trans hb.output, by have := hg.size; simp [World.setCell]; omega, fun k hk hn => ?_⟩
    have n1 : k ≠ p.b := fun e => hn (.inl e)
    have n2 : some k ≠ p.iv.ownBlock := fun e => hn (.inr (.inr (.inl e.symm)))
    rw [Below.heap_setCell _ _ _ _ n1, hg.block k (by omega) n2, hb.block k hk]
  · rcases hat with h | h
    · exact .inl h
    · exact .inr (by omega)
  · intro m es cl hm
    have hml := (Array.getElem?_eq_some_iff.1 hm).1
    have n1 : m ≠ p.b := fun e => by subst e; rw [hL.box] at hm; simp [boxOf] at hm
    have n2 : some m ≠ p.iv.ownBlock := fun e => by
      obtain ⟨c, hc⟩ := hib m e.symm
      rw [hm] at hc; cases hc
    rw [Below.heap_setCell _ _ _ _ n1, hg.block m (by omega) n2, hb.block m hml]
theorem info_int : (Try.prog.info? 3).map (fun i => (i.zero, i.size, i.bytes)) = some (some (.int .i64 0), 1, 8) := by kernel_rfl
/-- An input more: what the graph is then. -/
theorem step_in {w w2 w3 : World} {p p1 p2 : Pl} {G : Gr} (hG : Is w p G) (k1 : Kept p.own w w2) (eb1 : p1.b = p.b) (ei1 : p1.iv = p.iv) (em1 : p1.m = p.m) (nb1 : p1.nb = p.nb ∨ w.heap.size ≤ p1.nb)
    (l3 : Lay w3 p2 G.fold G.hash (G.nodes ++ [⟨false, 0, 0⟩]) (G.inputs ++ [(G.nodes.length : Int)])) (k2 : Kept p1.has w2 w3) (eb2 : p2.b = p1.b) (en2 : p2.nb = p1.nb) (em2 : p2.m = p1.m) (iv2 : ∀ k, p2.iv.ownBlock = some k → p1.iv.ownBlock = some k ∨ w2.heap.size ≤ k)
    (hmp : ∀ (m : Nat) (es : Array MapEntry) (cl : Nat), w2.heap[m]? = some (.map es cl) → w3.heap[m]? = w2.heap[m]?) : Step p w p2 w3 (inputG G) := by
  have hs := k1.size
  have new1 : ∀ k, p1.has k → p.has k ∨ w.heap.size ≤ k := by
    intro k hp
    rcases hp with hp | hp | hp | hp
    · exact .inl (.inl (hp.trans eb1))
    · rcases nb1 with h | h
      · exact .inl (.inr (.inl (hp.trans h)))
      · exact .inr (by omega)
    · rw [ei1] at hp; exact .inl (.inr (.inr (.inl hp)))
    · rw [em1] at hp; exact .inl (.inr (.inr (.inr hp)))
  have kh : Kept p.has w w2 := ⟨k1.os, k1.tape, k1.output, k1.size, fun k hk hn => k1.block k hk (fun h => hn (by rcases h with h | h; exact .inl h; exact .inr (.inl h)))⟩
  refine ⟨⟨l3, ?_⟩, kh.trans k2 new1, eb2.trans eb1, fun k hp => ?_⟩
  · have hm := hG.map
    unfold MapIn at hm ⊢
    show if G.hash = true then _ else _
    split
    · rename_i hH
      rw [if_pos hH] at hm
      obtain ⟨mb, D, e, ho, hD⟩ := hm
      obtain ⟨es, cl, hbk, -⟩ := id ho
      have hb2 : w2.heap[mb]? = w.heap[mb]? := k1.block mb ho.lt (map_apart hG.lay hbk)
      exact ⟨mb, D, (em2.trans em1).trans e, (map_block ho ((hmp mb es cl (hb2.trans hbk)).trans hb2)).mono (by rw [inputG_len]; omega), mapOf_input hD⟩
    · rename_i hH
      rw [if_neg hH] at hm
      exact (em2.trans em1).trans hm
  · have : p1.has k ∨ w2.heap.size ≤ k := by
      rcases hp with hp | hp | hp | hp
      · exact .inl (.inl (hp.trans eb2))
      · exact .inl (.inr (.inl (hp.trans en2)))
      · rcases iv2 k hp with h | h
        · exact .inl (.inr (.inr (.inl h)))
        · exact .inr h
      · rw [em2] at hp; exact .inl (.inr (.inr (.inr hp)))
    rcases this with h | h
    · exact new1 k h
    · exact .inr (by omega)

theorem news_one {w : World} {b : Nat} {x : Value} (h0 : w.cell? ⟨b, 0, none⟩ = some x) : ∀ (j : Nat) (u : Value), [x][j]? = some u → w.cell? ((⟨b, 0, none⟩ : Addr).add j) = some u := by
  intro j u h
  match j with
  | 0 => simp at h; subst h; simpa [Addr.add] using h0
  | j + 1 => simp at h

theorem Input_any {w : World} {p : Pl} {G : Gr} (hG : Is w p G) (hW : Wf G) (hm : G.nodes.length ≤ 200000) :
    Calls Try.prog 33 #[.pointer (some ⟨p.b, 0, none⟩)] w fun e w' => e = .returned (.tuple #[.int .u32 (2 * (G.nodes.length : Int)), .int .i64 0]) ∧ ∃ p', Step p w p' w' (inputG G) := by
  have h0 := hW.pos
  have hst := Lib.hid (stands_any hG.lay h0)
  have hcn := hW.cnt
  obtain ⟨-, -, c2, -, -, -⟩ := hG.lay.cells
  have hlt := hG.lay.lt
  have hadd := Lib.hid (add_any hG.lay h0 (by omega) ⟨false, 0, 0⟩)
  have hl : IsLit (2 * (G.nodes.length : Int)) := ⟨by omega, by omega⟩
  have hnode : Hid (∀ w, Calls Try.prog 12 #[.int .u32 (2 * (G.nodes.length : Int))] w fun e w' => e = .returned (.int .i64 G.nodes.length) ∧ w = w') := Lib.hid (fun w => by have := node_any _ hl w; rw [show 2 * (G.nodes.length : Int) / 2 = G.nodes.length by omega] at this; exact this)
  have HG := Lib.hid hG
  have hil : G.inputs.length ≤ 200000 := by omega
  obtain ⟨i0, hi, hz0, hz1, hz2⟩ := info_parts info_int
  have hkk := Lib.hid (rfl : G.nodes.length = G.nodes.length)
  clear hG hW hcn hl
  go_enter Try.func33, Try.ntmps33
  go_wp2_with (first
    | (go_at_call 44; refine hst.out.mono ?_; rintro e w2 ⟨rfl, rfl⟩)
    | (go_at_call 57; refine hadd.out.mono ?_; rintro e w2 ⟨rfl, p1, hl1, hk1, eb, ei, em, hnb⟩; obtain ⟨-, -, -, d3, -, fz⟩ := hl1.cells; have f3 := fz 3; rw [eb] at d3 f3; have hio := Lib.hid hl1.inputs; have hltb := hl1.lt; rw [eb] at hltb; have nbv : Hid (some p.b ≠ p1.iv.ownBlock) := Lib.hid (fun e => by obtain ⟨c, hc⟩ := own_type hl1.inputs e.symm; have hbx := hl1.box; rw [eb, hc] at hbx; simp [boxOf] at hbx); have HL1 := Lib.hid hl1; have HK := Lib.hid hk1; have HE := Lib.hid (show p1.b = p.b ∧ p1.iv = p.iv ∧ p1.m = p.m from ⟨eb, ei, em⟩); have HN := Lib.hid hnb; clear hl1 hk1 eb ei em hnb fz))
  go_region_law
    (first
      | (go_simp; go_at_call 12; refine (hnode.out _).mono ?_; rintro e w5 ⟨rfl, rfl⟩)
      | ((refine step_append_lies _ (by rfl) (.tmp 28) (.tmp 31) _ (by rfl) 0 3 i0 (.int .i64 0) 1 8 Try.underlying54 hi hz0 hz1 hz2 rfl (by decide) p1.iv G.inputs.length _ (by rfl) (by first | exact hio.out.drew | exact (hio.out.alloc _).drew | exact ((hio.out.alloc _).alloc _).drew) _ 1 1 [.int .i64 G.nodes.length] (by rfl) rfl (by exact news_one (by go_simp)) (by simp [Value.oneCell']) (by decide) (by unfold maxLen; omega) (by omega) (by omega) _ rfl ?_; intro g1 cap1 w1 hown1 hgrow1 hat1 hlt1; obtain ⟨x0, x1⟩ := grow_box hgrow1 (b := p.b) (o := 3) (v := p1.iv) (by go_simp) (by go_simp) nbv.out)))
  all_goals go_wp2
  all_goals go_ret2
  all_goals
    obtain ⟨r1, r2, r3, r4⟩ := in_next HL1.out (by first | exact ((Below.refl _ _).alloc (Nat.le_refl _) _).drew | exact ((Below.refl _ _).drew).alloc (Nat.le_refl _) _) G.nodes.length hown1 hgrow1 hat1
    rw [HE.out.1] at r1 r2 r4
    exact ⟨rfl, _, step_in HG.out HK.out HE.out.1 HE.out.2.1 HE.out.2.2 HN.out r1 r2 HE.out.1.symm rfl rfl (fun k hk => by
      have e : k = g1 := by simp [Value.ownBlock] at hk; exact hk.symm
      subst e; exact r3) r4⟩
end Go.Proofs.Ytjdebancpgpebaa
