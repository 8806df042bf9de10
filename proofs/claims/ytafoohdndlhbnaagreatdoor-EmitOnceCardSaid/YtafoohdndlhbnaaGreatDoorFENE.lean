/-
  A new graph; a new input.
  Eval, plainly: the inputs' words laid in, then each gate's, rising; what comes of it.
  Eval: the walk.
  Gate, Inputs; the law package's own 'brought'.
-/
import Derived.Test.YtafoohdndlhbnaaGreatDoorFEND
import Derived.Deep.Heap
import Derived.Test.YtafoohdndlhbnaaGreatDoorFENB
import Derived.Deep.CutBlock
import Derived.Deep.DeepCutAuto
import Derived.Lib.SliceRun
section
namespace Go.Proofs.YtafoohdndlhbnaaGreatDoor
open Go.RowKit Go.Maps
set_option maxRecDepth 100000

theorem lay_new {w : World} {N : Nat} {F H : Bool} {m : Option Nat} (h1 : w.heap[N + 1]? = some (.cells #[.bool false, .int .u32 0, .int .u32 0] 165 (0, 0)))
    (h2 : w.heap[N + 1 + 1]? = some (.cells #[.bool F, .bool H, .slice (some ⟨N + 1, 0, none⟩) 1 1, .slice none 0 0, .map m] 133 (0, 0))) :
    Lay w ⟨N + 1 + 1, N + 1, 1, .slice none 0 0, m⟩ F H [⟨false, 0, 0⟩] [] :=
  ⟨h2, ⟨rfl, .inr ⟨N + 1, 1, _, rfl, Nat.zero_le _, h1, Nat.le_refl _, by decide, rfl, rfl⟩⟩, ⟨rfl, .inl ⟨rfl, rfl⟩⟩⟩
theorem mapOf_nil : MapOf [⟨false, 0, 0⟩] (.map []) := by
  refine ⟨isMap_empty, fun a b _ _ => ⟨?_, fun i hi => ?_⟩⟩
  · rfl
  · cases hi
theorem alloc_get (w : World) (o : Obj) {N : Nat} (h : N = w.heap.size) : (w.alloc o).heap[N]? = some o := by subst h; exact Deep.blk_alloc_new w o
theorem alloc_old (w : World) (o : Obj) {N : Nat} {x : Option Obj} (hx : w.heap[N]? = x) (h : N < w.heap.size) : (w.alloc o).heap[N]? = x := (Deep.blk_alloc_lt w o N h).trans hx

theorem new_false (F : Bool) (w : World) :
    Calls Tryz.prog 99 #[.agg #[.bool F, .bool false]] w fun e w' => ∃ p : Pl, e = .returned (.pointer (some ⟨p.b, 0, none⟩)) ∧ Is w' p (newG F false) ∧ Below w.heap.size w w' ∧ ∀ k, p.has k → w.heap.size ≤ k := by
  go_enter Tryz.func99, Tryz.ntmps99
  go_wp2
  go_ret
  refine ⟨⟨w.heap.size + 1 + 1, w.heap.size + 1, 1, .slice none 0 0, none⟩, rfl, ⟨lay_new (alloc_old _ _ (alloc_get _ _ (by simp)) (by simp)) (alloc_get _ _ (by simp)), by unfold MapIn; rfl⟩, (((Below.refl _ _).alloc (Nat.le_refl _) _).alloc (by simp) _).alloc (by simp; omega) _, ?_⟩
  rintro k (h | h | h | h) <;> simp [Value.ownBlock] at h <;> omega
theorem new_true (F : Bool) (w : World) :
    Calls Tryz.prog 99 #[.agg #[.bool F, .bool true]] w fun e w' => ∃ p : Pl, e = .returned (.pointer (some ⟨p.b, 0, none⟩)) ∧ Is w' p (newG F true) ∧ Below w.heap.size w w' ∧ ∀ k, p.has k → w.heap.size ≤ k := by
  have hmm := @run_makeMap Tryz.prog
  go_enter Tryz.func99, Tryz.ntmps99
  go_wp2
  go_ret
  refine ⟨⟨w.heap.size + 1 + 1, w.heap.size + 1, 1, .slice none 0 0, some (w.heap.size + 1 + 1 + 1)⟩, rfl, ⟨lay_new (alloc_old _ _ (alloc_old _ _ (alloc_get _ _ (by simp)) (by simp)) (by simp)) (alloc_old _ _ (alloc_get _ _ (by simp)) (by simp)), ?_⟩, ((((Below.refl _ _).alloc (Nat.le_refl _) _).alloc (by simp) _).alloc (by simp; omega) _).alloc (by simp; omega) _, ?_⟩
  · unfold MapIn
    rw [if_pos (show (newG F true).hash = true from rfl)]
    refine ⟨w.heap.size + 1 + 1 + 1, .map [], rfl, ?_, mapOf_nil⟩
    have := (World.ownsMap_made (H := Unit) (((w.alloc (Obj.cells #[Value.bool F, Value.bool true] 23)).alloc (Obj.cells #[Value.bool false, Value.int IntKind.u32 0, Value.int IntKind.u32 0] 165)).alloc (Obj.cells #[Value.bool F, Value.bool true, Value.slice (some { block := w.heap.size + 1, off := 0 }) 1 1, Value.slice none 0 0, Value.map (some (w.heap.size + 1 + 1 + 1))] 133)) Tryz.prog 163 (plainElem Tryz.prog 66)).mono (Nat.zero_le 1)
    simpa [newG] using this
  · rintro k (h | h | h | h) <;> simp [Value.ownBlock] at h <;> omega
theorem new_any (F H : Bool) (w : World) :
    Calls Tryz.prog 99 #[.agg #[.bool F, .bool H]] w fun e w' => ∃ p : Pl, e = .returned (.pointer (some ⟨p.b, 0, none⟩)) ∧ Is w' p (newG F H) ∧ Below w.heap.size w w' ∧ ∀ k, p.has k → w.heap.size ≤ k := by
  cases H
  · exact new_false F w
  · exact new_true F w

/-- Behind the append and the store of the inputs. -/
theorem in_next {w wa w1 : World} {p : Pl} {F H : Bool} {ns : List Nd} {ins : List Int} (hL : Lay w p F H ns ins) (hb : Below w.heap.size w wa) (x : Int) {g cap : Nat}
    (hown : w1.ownsRow 0 3 1 (.slice (some ⟨g, 0, none⟩) (ins.length + 1) cap) (ins.length + 1) (ins.map (Value.int .i64) ++ [.int .i64 x]))
    (hg : wa.grownBy w1 p.iv.ownBlock) (hat : p.iv.ownBlock = some g ∨ g = wa.heap.size) :
    Lay (w1.setCell ⟨p.b, 3, none⟩ (.slice (some ⟨g, 0, none⟩) (ins.length + 1) cap)) { p with iv := .slice (some ⟨g, 0, none⟩) (ins.length + 1) cap } F H ns (ins ++ [x])
      ∧ Kept p.has w (w1.setCell ⟨p.b, 3, none⟩ (.slice (some ⟨g, 0, none⟩) (ins.length + 1) cap)) ∧ (p.iv.ownBlock = some g ∨ w.heap.size ≤ g) ∧ ∀ (m : Nat) (es : Array MapEntry) (cl : Nat), w.heap[m]? = some (.map es cl) → (w1.setCell ⟨p.b, 3, none⟩ (.slice (some ⟨g, 0, none⟩) (ins.length + 1) cap)).heap[m]? = w.heap[m]? := by
  have hlt := hL.lt
  have hnlt := hL.nlt
  have hsz := hb.size
  obtain ⟨cur, hcur⟩ := hL.nlen
  have hib : ∀ k, p.iv.ownBlock = some k → ∃ c, w.heap[k]? = some (.cells c 3 (0, 0)) := fun k hk => own_type hL.inputs hk
  have nb : some p.b ≠ p.iv.ownBlock := fun e => by
    obtain ⟨c, hc⟩ := hib p.b e.symm
    rw [hL.box] at hc; simp [boxOf] at hc
  have nn : some p.nb ≠ p.iv.ownBlock := fun e => by
    obtain ⟨c, hc⟩ := hib p.nb e.symm
    rw [hcur] at hc; simp at hc
  have hne : p.nb ≠ p.b := by
    intro e
    have := hL.box
    rw [← e, hcur] at this; simp [boxOf] at this
  have hgb : g ≠ p.b := by
    rcases hat with h | h
    · exact fun e => nb (by rw [h, e])
    · omega
  have hbox1 : w1.heap[p.b]? = some (boxOf p F H ns.length) := by
    rw [hg.block p.b (by omega) nb, hb.block _ hlt]; exact hL.box
  refine ⟨⟨?_, ?_, ?_⟩, ?_, ?_, ?_⟩
  · have := box_set (o := 3) hbox1 (.slice (some ⟨g, 0, none⟩) (ins.length + 1) cap)
    simpa [boxOf, Pl.nv] using this
  · refine ⟨hL.nodes.1, ?_⟩
    rcases hL.nodes.2 with h0 | ⟨g', cap', cur', hv, hg', hh, r⟩
    · exact .inl h0
    · have e : g' = p.nb := by simp [Pl.nv] at hv; exact hv.1.symm
      subst e
      exact .inr ⟨_, cap', cur', hv, hg', by rw [Below.heap_setCell _ _ _ _ hne, hg.block _ (by omega) nn, hb.block _ hnlt]; exact hh, r⟩
  · have : (w1.setCell ⟨p.b, 3, none⟩ (.slice (some ⟨g, 0, none⟩) (ins.length + 1) cap)).ownsRow 0 3 1 (.slice (some ⟨g, 0, none⟩) (ins.length + 1) cap) (ins.length + 1) (ins.map (Value.int .i64) ++ [.int .i64 x]) := by
      refine ⟨hown.1, ?_⟩
      rcases hown.2 with h0 | ⟨g', cap', cur', hv, hg', hh, r⟩
      · exact .inl h0
      · simp at hv
        obtain ⟨rfl, rfl⟩ := hv
        exact .inr ⟨_, _, cur', rfl, hg', by rw [Below.heap_setCell _ _ _ _ hgb]; exact hh, r⟩
    simpa using this
  · refine ⟨hg.os.trans hb.os, hg.tape.trans hb.tape, hg.output.trans hb.output, by have := hg.size; simp [World.setCell]; omega, fun k hk hn => ?_⟩
    have n1 : k ≠ p.b := fun e => hn (.inl e)
    have n2 : some k ≠ p.iv.ownBlock := fun e => hn (.inr (.inr (.inl e.symm)))
    rw [Below.heap_setCell _ _ _ _ n1, hg.block k (by omega) n2, hb.block k hk]
  · rcases hat with h | h
    · exact .inl h
    · exact .inr (by omega)
  · intro m es cl hm
    have hml := (Array.getElem?_eq_some_iff.1 hm).1
    have n1 : m ≠ p.b := fun e => by subst e; rw [hL.box] at hm; simp [boxOf] at hm
    have n2 : some m ≠ p.iv.ownBlock := fun e => by
      obtain ⟨c, hc⟩ := hib m e.symm
      rw [hm] at hc; cases hc
    rw [Below.heap_setCell _ _ _ _ n1, hg.block m (by omega) n2, hb.block m hml]
theorem info_int : (Tryz.prog.info? 3).map (fun i => (i.zero, i.size, i.bytes)) = some (some (.int .i64 0), 1, 8) := by kernel_rfl
/-- An input more: what the graph is then. -/
theorem step_in {w w2 w3 : World} {p p1 p2 : Pl} {G : Gr} (hG : Is w p G) (k1 : Kept p.own w w2) (eb1 : p1.b = p.b) (ei1 : p1.iv = p.iv) (em1 : p1.m = p.m) (nb1 : p1.nb = p.nb ∨ w.heap.size ≤ p1.nb)
    (l3 : Lay w3 p2 G.fold G.hash (G.nodes ++ [⟨false, 0, 0⟩]) (G.inputs ++ [(G.nodes.length : Int)])) (k2 : Kept p1.has w2 w3) (eb2 : p2.b = p1.b) (en2 : p2.nb = p1.nb) (em2 : p2.m = p1.m) (iv2 : ∀ k, p2.iv.ownBlock = some k → p1.iv.ownBlock = some k ∨ w2.heap.size ≤ k)
    (hmp : ∀ (m : Nat) (es : Array MapEntry) (cl : Nat), w2.heap[m]? = some (.map es cl) → w3.heap[m]? = w2.heap[m]?) : Step p w p2 w3 (inputG G) := by
  have hs := k1.size
  have new1 : ∀ k, p1.has k → p.has k ∨ w.heap.size ≤ k := by
    intro k hp
    rcases hp with hp | hp | hp | hp
    · exact .inl (.inl (hp.trans eb1))
    · rcases nb1 with h | h
      · exact .inl (.inr (.inl (hp.trans h)))
      · exact .inr (by omega)
    · rw [ei1] at hp; exact .inl (.inr (.inr (.inl hp)))
    · rw [em1] at hp; exact .inl (.inr (.inr (.inr hp)))
  have kh : Kept p.has w w2 := ⟨k1.os, k1.tape, k1.output, k1.size, fun k hk hn => k1.block k hk (fun h => hn (by rcases h with h | h; exact .inl h; exact .inr (.inl h)))⟩
  refine ⟨⟨l3, ?_⟩, kh.trans k2 new1, eb2.trans eb1, fun k hp => ?_⟩
  · have hm := hG.map
    unfold MapIn at hm ⊢
    show if G.hash = true then _ else _
    split
    · rename_i hH
      rw [if_pos hH] at hm
      obtain ⟨mb, D, e, ho, hD⟩ := hm
      obtain ⟨es, cl, hbk, -⟩ := id ho
      have hb2 : w2.heap[mb]? = w.heap[mb]? := k1.block mb ho.lt (map_apart hG.lay hbk)
      exact ⟨mb, D, (em2.trans em1).trans e, (map_block ho ((hmp mb es cl (hb2.trans hbk)).trans hb2)).mono (by rw [inputG_len]; omega), mapOf_input hD⟩
    · rename_i hH
      rw [if_neg hH] at hm
      exact (em2.trans em1).trans hm
  · have : p1.has k ∨ w2.heap.size ≤ k := by
      rcases hp with hp | hp | hp | hp
      · exact .inl (.inl (hp.trans eb2))
      · exact .inl (.inr (.inl (hp.trans en2)))
      · rcases iv2 k hp with h | h
        · exact .inl (.inr (.inr (.inl h)))
        · exact .inr h
      · rw [em2] at hp; exact .inl (.inr (.inr (.inr hp)))
    rcases this with h | h
    · exact new1 k h
    · exact .inr (by omega)

theorem news_one {w : World} {b : Nat} {x : Value} (h0 : w.cell? ⟨b, 0, none⟩ = some x) : ∀ (j : Nat) (u : Value), [x][j]? = some u → w.cell? ((⟨b, 0, none⟩ : Addr).add j) = some u := by
  intro j u h
  match j with
  | 0 => simp at h; subst h; simpa [Addr.add] using h0
  | j + 1 => simp at h

theorem Input_any {w : World} {p : Pl} {G : Gr} (hG : Is w p G) (hW : Wf G) (hm : G.nodes.length ≤ 200000) :
    Calls Tryz.prog 104 #[.pointer (some ⟨p.b, 0, none⟩)] w fun e w' => e = .returned (.tuple #[.int .u32 (2 * (G.nodes.length : Int)), .int .i64 0]) ∧ ∃ p', Step p w p' w' (inputG G) := by
  have h0 := hW.pos
  have hst := Lib.hid (stands_any hG.lay h0)
  have hcn := hW.cnt
  obtain ⟨-, -, c2, -, -, -⟩ := hG.lay.cells
  have hlt := hG.lay.lt
  have hadd := Lib.hid (add_any hG.lay h0 (by omega) ⟨false, 0, 0⟩)
  have hl : IsLit (2 * (G.nodes.length : Int)) := ⟨by omega, by omega⟩
  have hnode : Hid (∀ w, Calls Tryz.prog 128 #[.int .u32 (2 * (G.nodes.length : Int))] w fun e w' => e = .returned (.int .i64 G.nodes.length) ∧ w = w') := Lib.hid (fun w => by have := node_any _ hl w; rw [show 2 * (G.nodes.length : Int) / 2 = G.nodes.length by omega] at this; exact this)
  have HG := Lib.hid hG
  have hil : G.inputs.length ≤ 200000 := by omega
  obtain ⟨i0, hi, hz0, hz1, hz2⟩ := info_parts info_int
  have hkk := Lib.hid (rfl : G.nodes.length = G.nodes.length)
  clear hG hW hcn hl
  go_enter Tryz.func104, Tryz.ntmps104
  go_wp2_with (first
    | (go_at_call 58; refine hst.out.mono ?_; rintro e w2 ⟨rfl, rfl⟩)
    | (go_at_call 183; refine hadd.out.mono ?_; rintro e w2 ⟨rfl, p1, hl1, hk1, eb, ei, em, hnb⟩; obtain ⟨-, -, -, d3, -, fz⟩ := hl1.cells; have f3 := fz 3; rw [eb] at d3 f3; have hio := Lib.hid hl1.inputs; have hltb := hl1.lt; rw [eb] at hltb; have nbv : Hid (some p.b ≠ p1.iv.ownBlock) := Lib.hid (fun e => by obtain ⟨c, hc⟩ := own_type hl1.inputs e.symm; have hbx := hl1.box; rw [eb, hc] at hbx; simp [boxOf] at hbx); have HL1 := Lib.hid hl1; have HK := Lib.hid hk1; have HE := Lib.hid (show p1.b = p.b ∧ p1.iv = p.iv ∧ p1.m = p.m from ⟨eb, ei, em⟩); have HN := Lib.hid hnb; clear hl1 hk1 eb ei em hnb fz))
  go_region_law
    (first
      | (go_simp; go_at_call 128; refine (hnode.out _).mono ?_; rintro e w5 ⟨rfl, rfl⟩)
      | ((refine step_append_lies _ (by rfl) (.tmp 28) (.tmp 31) _ (by rfl) 0 3 i0 (.int .i64 0) 1 8 Tryz.underlying130 hi hz0 hz1 hz2 rfl (by decide) p1.iv G.inputs.length _ (by rfl) (by first | exact hio.out.drew | exact (hio.out.alloc _).drew | exact ((hio.out.alloc _).alloc _).drew) _ 1 1 [.int .i64 G.nodes.length] (by rfl) rfl (by exact news_one (by go_simp)) (by simp [Value.oneCell']) (by decide) (by unfold maxLen; omega) (by omega) (by omega) _ rfl ?_; intro g1 cap1 w1 hown1 hgrow1 hat1 hlt1; obtain ⟨x0, x1⟩ := grow_box hgrow1 (b := p.b) (o := 3) (v := p1.iv) (by go_simp) (by go_simp) nbv.out)))
  all_goals go_wp2
  all_goals go_ret2
  all_goals
    obtain ⟨r1, r2, r3, r4⟩ := in_next HL1.out (by first | exact ((Below.refl _ _).alloc (Nat.le_refl _) _).drew | exact ((Below.refl _ _).drew).alloc (Nat.le_refl _) _) G.nodes.length hown1 hgrow1 hat1
    rw [HE.out.1] at r1 r2 r4
    exact ⟨rfl, _, step_in HG.out HK.out HE.out.1 HE.out.2.1 HE.out.2.2 HN.out r1 r2 HE.out.1.symm rfl rfl (fun k hk => by
      have e : k = g1 := by simp [Value.ownBlock] at hk; exact hk.symm
      subst e; exact r3) r4⟩
end Go.Proofs.YtafoohdndlhbnaaGreatDoor
end

section
namespace Go.Proofs.YtafoohdndlhbnaaGreatDoor
open Go.RowKit Num

def in1 (G : Gr) (ins : List Int) : Nat → List Int
  | 0 => List.replicate G.nodes.length 0
  | j + 1 => (in1 G ins j).set (G.inputs.getD j 0).toNat (ins.getD j 0)
def nodeAt (G : Gr) (i : Nat) : Nd := G.nodes.getD i ⟨false, 0, 0⟩
def gateW (G : Gr) (i : Nat) (ws : List Int) : Int := bits .and .u64 (wordV (nodeAt G i).a ws) (wordV (nodeAt G i).b ws)
def ev (G : Gr) (W : List Int) : Nat → List Int
  | 0 => W
  | i + 1 => if (nodeAt G i).gate then (ev G W i).set i (gateW G i (ev G W i)) else ev G W i

theorem in1_len (G : Gr) (ins : List Int) (j : Nat) : (in1 G ins j).length = G.nodes.length := by
  induction j with
  | zero => simp [in1]
  | succ j ih => simp [in1, ih]
theorem ev_len (G : Gr) (W : List Int) (i : Nat) : (ev G W i).length = W.length := by
  induction i with
  | zero => rfl
  | succ i ih => unfold ev; split <;> simp [ih]
theorem words_set {ws : List Int} (h : Words ws) (i : Nat) {x : Int} (hx : 0 ≤ x ∧ x < 18446744073709551616) : Words (ws.set i x) := by
  intro j
  simp only [List.getD, List.getElem?_set]
  by_cases e : i = j
  · subst e
    by_cases hl : i < ws.length
    · simp [hl]; omega
    · simp [hl]
  · simp [e]; exact h j
theorem words_zero (n : Nat) : Words (List.replicate n 0) := by
  intro i
  simp [List.getD, List.getElem?_replicate]
  split <;> simp
theorem in1_words (G : Gr) {ins : List Int} (h : Words ins) (j : Nat) : Words (in1 G ins j) := by
  induction j with
  | zero => exact words_zero _
  | succ j ih => exact words_set ih _ (h j)
theorem gateW_bd (G : Gr) (i : Nat) {ws : List Int} (h : Words ws) : 0 ≤ gateW G i ws ∧ gateW G i ws < 18446744073709551616 := by
  have a := wordV_bd h (nodeAt G i).a
  have b := wordV_bd h (nodeAt G i).b
  exact and_bd a.1 a.2 b.1 b.2
theorem ev_words (G : Gr) {W : List Int} (h : Words W) (i : Nat) : Words (ev G W i) := by
  induction i with
  | zero => exact h
  | succ i ih =>
    unfold ev; split
    · exact words_set ih _ (gateW_bd G i ih)
    · exact ih
theorem getD_set {ws : List Int} (i j : Nat) (x : Int) (hi : i < ws.length) : (ws.set i x).getD j 0 = if i = j then x else ws.getD j 0 := by
  simp only [List.getD, List.getElem?_set]
  by_cases e : i = j
  · subst e; simp [hi]
  · simp [e]
/-- What is laid in. -/
theorem in1_at {G : Gr} (hW : Wf G) (ins : List Int) : ∀ j, j ≤ G.inputs.length → (∀ (k i : Nat), k < j → G.inputs[k]? = some (i : Int) → (in1 G ins j).getD i 0 = ins.getD k 0) ∧ (in1 G ins j).getD 0 0 = 0 := by
  intro j
  induction j with
  | zero =>
    intro _
    refine ⟨fun k i h => by omega, ?_⟩
    have := words_zero G.nodes.length
    simp [in1, List.getD, List.getElem?_replicate]
    split <;> simp
  | succ j ih =>
    intro hj
    obtain ⟨h1, h2⟩ := ih (by omega)
    have hg : G.inputs[j]? = some (G.inputs.getD j 0) := by simp [List.getD, show j < G.inputs.length by omega]
    obtain ⟨m, em, m0, n, hn, -⟩ := hW.ins j _ hg
    have hm := (List.getElem?_eq_some_iff.1 hn).1
    have hml : m < (in1 G ins j).length := by rw [in1_len]; exact hm
    rw [show in1 G ins (j + 1) = (in1 G ins j).set (G.inputs.getD j 0).toNat (ins.getD j 0) from rfl, em, Int.toNat_natCast]
    refine ⟨fun k i hk hki => ?_, ?_⟩
    · rw [getD_set _ _ _ hml]
      by_cases e : k = j
      · subst e
        rw [hg] at hki
        have : m = i := by have := Option.some.inj hki; omega
        rw [if_pos this]
      · have hlt : k < j := by omega
        have := hW.rise k j _ _ hlt hki hg
        rw [if_neg (by omega)]
        exact h1 k i hlt hki
    · rw [getD_set _ _ _ hml, if_neg (by omega)]; exact h2
/-- What is past stays. -/
theorem ev_past (G : Gr) (W : List Int) (hl : W.length = G.nodes.length) (k : Nat) : ∀ d i, k < i → (ev G W (i + d)).getD k 0 = (ev G W i).getD k 0 := by
  intro d
  induction d with
  | zero => intro i _; rfl
  | succ d ih =>
    intro i hk
    rw [← ih i hk, show i + (d + 1) = (i + d) + 1 from rfl]
    show (if (nodeAt G (i + d)).gate then (ev G W (i + d)).set (i + d) (gateW G (i + d) (ev G W (i + d))) else ev G W (i + d)).getD k 0 = _
    split
    · by_cases hlt : i + d < (ev G W (i + d)).length
      · rw [getD_set _ _ _ hlt, if_neg (by omega)]
      · rw [List.set_eq_of_length_le (by omega)]
    · rfl
theorem ev_plain (G : Gr) (W : List Int) (k : Nat) (hk : (nodeAt G k).gate = false) : ∀ i, (ev G W i).getD k 0 = W.getD k 0 := by
  intro i
  induction i with
  | zero => rfl
  | succ i ih =>
    unfold ev
    split
    · rename_i hg
      by_cases hlt : i < (ev G W i).length
      · rw [getD_set _ _ _ hlt, if_neg (fun e => by subst e; rw [hk] at hg; cases hg)]; exact ih
      · rw [List.set_eq_of_length_le (by omega)]; exact ih
    · exact ih
theorem wordV_congr {l : Int} {ws ws' : List Int} (hl : ws.length = ws'.length) (h0 : 0 ≤ l) (h : ws.getD (l / 2).toNat 0 = ws'.getD (l / 2).toNat 0) : wordV l ws = wordV l ws' := by
  have e : nodeW (l / 2) ws = nodeW (l / 2) ws' := by
    unfold nodeW; rw [hl, h]
  unfold wordV; rw [e]
/-- Eval says the graph's words. -/
theorem ev_val {G : Gr} (hW : Wf G) {ins : List Int} (hI : Words ins) : Val G ins (ev G (in1 G ins G.inputs.length) G.nodes.length) := by
  have hl := in1_len G ins G.inputs.length
  have hin := in1_at hW ins _ (Nat.le_refl _)
  have hat : ∀ i n, G.nodes[i]? = some n → nodeAt G i = n := fun i n h => by simp [nodeAt, List.getD, h]
  refine ⟨ev_words G (in1_words G hI _) _, by rw [ev_len, hl]; exact Nat.le_refl _, ?_, ?_, ?_⟩
  · rw [ev_plain G _ 0 (by rw [hat 0 _ hW.zero]) _]; exact hin.2
  · intro i n hn hg
    have hi := (List.getElem?_eq_some_iff.1 hn).1
    obtain ⟨la, lb, hba, hai⟩ := hW.gates i n hn hg
    have e1 : (ev G (in1 G ins G.inputs.length) G.nodes.length).getD i 0 = (ev G (in1 G ins G.inputs.length) (i + 1)).getD i 0 := by
      have := ev_past G _ hl i (G.nodes.length - (i + 1)) (i + 1) (by omega)
      rw [show i + 1 + (G.nodes.length - (i + 1)) = G.nodes.length by omega] at this
      exact this
    have e2 : ∀ k, k < i → (ev G (in1 G ins G.inputs.length) G.nodes.length).getD k 0 = (ev G (in1 G ins G.inputs.length) i).getD k 0 := fun k hk => by
      have := ev_past G _ hl k (G.nodes.length - i) i hk
      rw [show i + (G.nodes.length - i) = G.nodes.length by omega] at this
      exact this
    have e3 : (ev G (in1 G ins G.inputs.length) (i + 1)).getD i 0 = gateW G i (ev G (in1 G ins G.inputs.length) i) := by
      show (if (nodeAt G i).gate then (ev G _ i).set i (gateW G i (ev G _ i)) else ev G _ i).getD i 0 = _
      rw [hat i n hn, if_pos hg, getD_set _ _ _ (by rw [ev_len, hl]; exact hi), if_pos rfl]
    have ll : ∀ m, (ev G (in1 G ins G.inputs.length) i).length = (ev G (in1 G ins G.inputs.length) m).length := fun m => by rw [ev_len, ev_len]
    unfold IsLit at la lb
    rw [e1, e3]
    unfold gateW
    rw [hat i n hn, wordV_congr (ll _) la.1 (e2 _ (by omega)).symm, wordV_congr (ll _) lb.1 (e2 _ (by omega)).symm]
  · intro k i hk
    have hk2 := (List.getElem?_eq_some_iff.1 hk).1
    obtain ⟨m, em, m0, n, hn, hg⟩ := hW.ins k _ hk
    have : m = i := by omega
    subst this
    rw [ev_plain G _ m (by rw [hat m n hn]; exact hg) _]
    exact hin.1 k m hk2 hk
end Go.Proofs.YtafoohdndlhbnaaGreatDoor
end

section
namespace Go.Proofs.YtafoohdndlhbnaaGreatDoor
open Go.RowKit Go.Maps

theorem info_u64 : (Tryz.prog.info? 49).map (fun i => (i.zero, i.size, i.bytes)) = some (some (.int .u64 0), 1, 8) := by kernel_rfl
theorem made_zero (kd : IntKind) (n : Nat) : (madeCells (Value.int kd 0).cells (n * 1)).toList = (List.replicate n (0 : Int)).map (Value.int kd) := by
  rw [fillK_zero kd (fun _ => 0) n]
  congr 1
  apply List.ext_getElem
  · simp [fillF, Bits.row]
  · intro i h1 h2; simp [fillF, Bits.row]

theorem node_cells {w : World} {p : Pl} {G : Gr} (hL : Lay w p G.fold G.hash G.nodes G.inputs) {j : Nat} (hj : j < G.nodes.length) :
    w.cell? ⟨p.nb, j * 3, none⟩ = some (.bool (nodeAt G j).gate) ∧ w.cell? ⟨p.nb, j * 3 + 1, none⟩ = some (.int .u32 (nodeAt G j).a) ∧ w.cell? ⟨p.nb, j * 3 + 2, none⟩ = some (.int .u32 (nodeAt G j).b) := by
  have hn : G.nodes[j]? = some (nodeAt G j) := by simp [nodeAt, List.getD, hj]
  obtain ⟨e0, e1, e2⟩ := nodeCells_at _ _ _ hn
  have ho : w.ownsRow 0 165 3 (.slice (some ⟨p.nb, 0, none⟩) G.nodes.length p.nc) G.nodes.length (nodeCells G.nodes) := hL.nodes
  rw [ho.cellAt _ (by omega), ho.cellAt _ (by omega), ho.cellAt _ (by omega), Nat.mul_comm j 3]
  exact ⟨e0, e1, e2⟩

theorem tri_box (w : World) (x y z : Value) (T : Nat) : (w.alloc (.cells #[x, y, z] T)).cell? ⟨w.heap.size, 1, none⟩ = some y ∧ (w.alloc (.cells #[x, y, z] T)).cell? ⟨w.heap.size, 2, none⟩ = some z := ⟨by simp [go_sem], by simp [go_sem]⟩

end Go.Proofs.YtafoohdndlhbnaaGreatDoor
end

section
namespace Go.Proofs.YtafoohdndlhbnaaGreatDoor
open Go.RowKit Go.Maps
set_option maxRecDepth 100000

theorem Gate_any {w : World} {p : Pl} {G : Gr} (hG : Is w p G) (hW : Wf G) (hm : G.nodes.length ≤ 200000) {j : Nat} (hj : j < G.nodes.length) :
    Calls Tryz.prog 30 #[.pointer (some ⟨p.b, 0, none⟩), .int .i64 j] w fun e w' => e = .returned (.tuple #[.int .u32 (nodeAt G j).a, .int .u32 (nodeAt G j).b, .bool (nodeAt G j).gate]) ∧ Below w.heap.size w w' := by
  have hno := Lib.hid (nodes_any hG.lay hW.pos)
  obtain ⟨-, -, c2, -, -, -⟩ := hG.lay.cells
  have hlt := hG.lay.lt
  have hnl := hG.lay.nlt
  obtain ⟨n0, n1, n2⟩ := node_cells hG.lay hj
  have g0 : decide ((j : Int) < 0) = false := by simp
  have g1 : decide ((G.nodes.length : Int) ≤ j) = false := by simp; omega
  generalize G.nodes.length = k at *
  generalize (nodeAt G j).gate = ng at *
  generalize (nodeAt G j).a = na at *
  generalize (nodeAt G j).b = nb at *
  clear hG hW
  go_enter Tryz.func30, Tryz.ntmps30
  go_wp2_with (go_at_call 21; (with_reducible refine hno.out.mono ?_); rintro e w2 ⟨rfl, rfl⟩)
  go_quiet (fail)
  go_wp2
  refine bodyPost_ret (v := .tuple #[.int .u32 na, .int .u32 nb, .bool ng]) (by simp [results, Tryz.results30, go_sem]) rfl ⟨rfl, nextw ((Below.refl _ _).alloc (Nat.le_refl _) _) (below_draws _ _)⟩

theorem Inputs_any {w : World} {p : Pl} {G : Gr} (hG : Is w p G) (hW : Wf G) (hm : G.nodes.length ≤ 200000) :
    Calls Tryz.prog 125 #[.pointer (some ⟨p.b, 0, none⟩)] w fun e w' => ∃ (a : Option Addr) (cap : Nat), e = .returned (.slice a G.inputs.length cap) ∧ Below w.heap.size w w' := by
  have hst := Lib.hid (stands_any hG.lay hW.pos)
  have hcn := hW.cnt
  obtain ⟨-, -, -, c3, -, -⟩ := hG.lay.cells
  obtain ⟨ia, ic, hiv⟩ := own_slice hG.lay.inputs
  rw [hiv] at c3
  have hio := hG.lay.inputs
  rw [hiv] at hio
  have hil : G.inputs.length ≤ 200000 := by omega
  have hcl : Hid (∀ w2, w2 = w → Calls Tryz.prog 140 #[.slice ia G.inputs.length ic] w2 fun e w' => ∃ (a : Option Addr) (cap : Nat), e = .returned (.slice a G.inputs.length cap) ∧ Below w.heap.size w w') := by
    show ∀ w2, _
    rintro w2 rfl
    obtain ⟨i0, hi, hz0, hz1, hz2⟩ := info_parts info_int
    have hlen : (G.inputs.map (Value.int .i64)).length = G.inputs.length := by simp
    have hone : ∀ u ∈ G.inputs.map (Value.int .i64), u.oneCell' = true := by
      intro u hu
      obtain ⟨z, -, rfl⟩ := List.mem_map.1 hu
      rfl
    clear hst hcn hiv c3 hG hW
    generalize G.inputs.map (Value.int .i64) = xs at *
    generalize G.inputs.length = m at *
    rcases hio.2 with ⟨h0, h1⟩ | ⟨g, cap', cur, hv, -, -⟩
    · simp at h0
      obtain ⟨rfl, rfl, rfl⟩ := h0
      clear hio hlen hone h1
      have heq : ∀ W, (binOp .eql 130 (.slice none 0 0) (.slice none 0 0)).run Tryz.prog W = .ok (.bool true) W := fun W => Lib.run_eql_slice_nil W _ _ _ _ _ _ _ Tryz.underlying130
      go_enter Tryz.func140, Tryz.ntmps140
      go_wp2
      go_ret
      exact ⟨none, 0, rfl, Below.refl _ _⟩
    · simp at hv
      obtain ⟨rfl, rfl⟩ := hv
      have hlt := own_lt hio
      have hcells := hio.cells (g := g) rfl
      have HO := Lib.hid (fun j u (h : xs[j]? = some u) => hcells j u h)
      have HL := Lib.hid hlen
      have H1 := Lib.hid hone
      have hemp : Hid ((w2.alloc (.cells #[] 3)).ownsRow w2.heap.size 3 1 (.slice (some ⟨w2.heap.size, 0, none⟩) 0 0) 0 []) := Lib.hid ⟨rfl, .inr ⟨w2.heap.size, 0, #[], rfl, Nat.le_refl _, Deep.blk_alloc_new _ _, Nat.le_refl _, by decide, rfl, rfl⟩⟩
      have hb0 : Hid (Below w2.heap.size w2 (w2.alloc (.cells #[] 3))) := Lib.hid ((Below.refl _ _).alloc (Nat.le_refl _) _)
      have hadd : ∀ j, (⟨g, 0, none⟩ : Addr).add j = ⟨g, j, none⟩ := fun j => by simp [Addr.add]; omega
      have HN := Lib.hid (fun j u (h : xs[j]? = some u) => (hb0.out.cell (p := (⟨g, 0, none⟩ : Addr).add j) (by rw [hadd]; exact hlt)).trans (HO.out j u h))
      clear hio hcells hlen hone hadd
      have heq : ∀ W, (binOp .eql 130 (.slice (some ⟨g, 0, none⟩) m ic) (.slice none 0 0)).run Tryz.prog W = .ok (.bool false) W := fun W => Lib.run_eql_slice_nil W _ _ _ _ _ _ _ Tryz.underlying130
      go_enter Tryz.func140, Tryz.ntmps140
      go_wp2_with (at_builtin; refine wpList_append_own_at _ rfl _ _ 130 rfl w2.heap.size 3 i0 (.int .i64 0) 1 8 Tryz.underlying130 hi hz0 hz1 hz2 rfl (by decide) (.slice (some ⟨w2.heap.size, 0, none⟩) 0 0) 0 [] rfl hemp.out ⟨g, 0, none⟩ m ic xs rfl (by rw [HL.out]; omega) HN.out H1.out (by unfold maxLen; omega) (by omega) (by simp) ?_; intro v' w3 hown' hgrow hnil hloc)
      obtain ⟨a3, c3, rfl⟩ := own_slice hown'
      go_wp2
      go_ret
      refine ⟨a3, c3, by simp, ?_⟩
      exact hb0.out.grown hgrow (by simp) (fun k hk => by simp [Value.ownBlock] at hk; omega)
  clear hG hW hcn hio hiv
  generalize G.inputs.length = m at *
  go_enter Tryz.func125, Tryz.ntmps125
  go_wp2_with (first
    | (go_at_call 58; refine hst.out.mono ?_; rintro e w2 ⟨rfl, rfl⟩)
    | (go_at_call 140; refine (hcl.out _ rfl).mono ?_; rintro e w2 ⟨a2, cap2, rfl, hB⟩))
  go_ret
  exact ⟨a2, cap2, rfl, hB⟩
end Go.Proofs.YtafoohdndlhbnaaGreatDoor
end
