/-
  Inputs, with what it tells; Copy.
-/
import Derived.Test.YtjdebancpgpebaaAigAt
import Derived.Shelf.SlMaps.Clone
import Derived.Deep.RegionHeld3
import Derived.Deep.CutBlock
import Derived.Deep.DeepCutAuto
namespace Go.Proofs.Ytjdebancpgpebaa
open Go.RowKit Go.Maps
set_option maxRecDepth 100000

theorem clone_int {w : World} {base : Nat} {a : Option Addr} {m c : Nat} {l : List Int} (h : w.ownsRow base 3 1 (.slice a m c) m (l.map (Value.int .i64))) (hm : m ≤ 200000) :
    Calls Try.prog 45 #[.slice a m c] w fun e w' => ∃ (a2 : Option Addr) (c2 : Nat), e = .returned (.slice a2 m c2) ∧ w'.ownsRow w.heap.size 3 1 (.slice a2 m c2) m (l.map (Value.int .i64)) ∧ Below w.heap.size w w' := by
  obtain ⟨i0, hi, hz0, hz1, hz2⟩ := info_parts info_int
  have hlen : (l.map (Value.int .i64)).length = m := by have := h.1; simpa using this
  have hone : ∀ u ∈ l.map (Value.int .i64), u.oneCell' = true := by
    intro u hu
    obtain ⟨z, -, rfl⟩ := List.mem_map.1 hu
    rfl
  generalize l.map (Value.int .i64) = xs at *
  rcases h.2 with ⟨h0, h1⟩ | ⟨g, cap', cur, hv, -, -⟩
  · simp at h0
    obtain ⟨rfl, rfl, rfl⟩ := h0
    obtain rfl : xs = [] := List.length_eq_zero_iff.1 hlen
    clear h hlen hone h1
    have heq : ∀ W, (binOp .eql 54 (.slice none 0 0) (.slice none 0 0)).run Try.prog W = .ok (.bool true) W := fun W => Lib.run_eql_slice_nil W _ _ _ _ _ _ _ Try.underlying54
    go_enter Try.func45, Try.ntmps45
    go_wp2
    go_ret
    exact ⟨none, 0, rfl, own_nil _ _ _, Below.refl _ _⟩
  · simp at hv
    obtain ⟨rfl, rfl⟩ := hv
    have hlt := own_lt h
    have hcells := h.cells (g := g) rfl
    have HO := Lib.hid (fun j u (h : xs[j]? = some u) => hcells j u h)
    have HL := Lib.hid hlen
    have H1 := Lib.hid hone
    have hemp : Hid ((w.alloc (.cells #[] 3)).ownsRow w.heap.size 3 1 (.slice (some ⟨w.heap.size, 0, none⟩) 0 0) 0 []) := Lib.hid ⟨rfl, .inr ⟨w.heap.size, 0, #[], rfl, Nat.le_refl _, Deep.blk_alloc_new _ _, Nat.le_refl _, by decide, rfl, rfl⟩⟩
    have hb0 : Hid (Below w.heap.size w (w.alloc (.cells #[] 3))) := Lib.hid ((Below.refl _ _).alloc (Nat.le_refl _) _)
    have hadd : ∀ j, (⟨g, 0, none⟩ : Addr).add j = ⟨g, j, none⟩ := fun j => by simp [Addr.add]; omega
    have HN := Lib.hid (fun j u (h : xs[j]? = some u) => (hb0.out.cell (p := (⟨g, 0, none⟩ : Addr).add j) (by rw [hadd]; exact hlt)).trans (HO.out j u h))
    clear h hcells hlen hone hadd
    have heq : ∀ W, (binOp .eql 54 (.slice (some ⟨g, 0, none⟩) m c) (.slice none 0 0)).run Try.prog W = .ok (.bool false) W := fun W => Lib.run_eql_slice_nil W _ _ _ _ _ _ _ Try.underlying54
    go_enter Try.func45, Try.ntmps45
    go_wp2_with (at_builtin; refine wpList_append_own_at _ rfl _ _ 54 rfl w.heap.size 3 i0 (.int .i64 0) 1 8 Try.underlying54 hi hz0 hz1 hz2 rfl (by decide) (.slice (some ⟨w.heap.size, 0, none⟩) 0 0) 0 [] rfl hemp.out ⟨g, 0, none⟩ m c xs rfl (by rw [HL.out]; omega) HN.out H1.out (by unfold maxLen; omega) (by omega) (by simp) ?_; intro v' w3 hown' hgrow hnil hloc)
    obtain ⟨a3, c3, rfl⟩ := own_slice hown'
    go_wp2
    go_ret
    rw [List.nil_append, Nat.zero_add] at hown'
    refine ⟨a3, c3, by simp, hown', ?_⟩
    exact hb0.out.grown hgrow (by simp) (fun k hk => by simp [Value.ownBlock] at hk; omega)

theorem node_one (ns : List Nd) : ∀ u ∈ nodeCells ns, u.oneCell' = true := by
  intro u hu
  obtain ⟨n, -, hn⟩ := List.mem_flatMap.1 hu
  simp [ndCells] at hn
  rcases hn with rfl | rfl | rfl <;> rfl
theorem clone_node {w : World} {g m c : Nat} {ns : List Nd} (h : w.ownsRow 0 98 3 (.slice (some ⟨g, 0, none⟩) m c) m (nodeCells ns)) (hm : m ≤ 200000) (h0 : 0 < m) :
    Calls Try.prog 48 #[.slice (some ⟨g, 0, none⟩) m c] w fun e w' => ∃ g2 c2 : Nat, e = .returned (.slice (some ⟨g2, 0, none⟩) m c2) ∧ w'.ownsRow w.heap.size 98 3 (.slice (some ⟨g2, 0, none⟩) m c2) m (nodeCells ns) ∧ Below w.heap.size w w' := by
  obtain ⟨i0, hi, hz0, hz1, hz2⟩ := info_parts info_node
  have hlen : (nodeCells ns).length = m * 3 := h.1
  have hone := node_one ns
  have hlt := own_lt h
  have hcells := h.cells (g := g) rfl
  generalize nodeCells ns = xs at *
  have HO := Lib.hid (fun j u (h : xs[j]? = some u) => hcells j u h)
  have HL := Lib.hid hlen
  have H1 := Lib.hid hone
  have hemp : Hid ((w.alloc (.cells #[] 98)).ownsRow w.heap.size 98 3 (.slice (some ⟨w.heap.size, 0, none⟩) 0 0) 0 []) := Lib.hid ⟨rfl, .inr ⟨w.heap.size, 0, #[], rfl, Nat.le_refl _, Deep.blk_alloc_new _ _, Nat.le_refl _, by decide, rfl, rfl⟩⟩
  have hb0 : Hid (Below w.heap.size w (w.alloc (.cells #[] 98))) := Lib.hid ((Below.refl _ _).alloc (Nat.le_refl _) _)
  have hadd : ∀ j, (⟨g, 0, none⟩ : Addr).add j = ⟨g, j, none⟩ := fun j => by simp [Addr.add]; omega
  have HN := Lib.hid (fun j u (h : xs[j]? = some u) => (hb0.out.cell (p := (⟨g, 0, none⟩ : Addr).add j) (by rw [hadd]; exact hlt)).trans (HO.out j u h))
  clear h hcells hlen hone hadd
  have heq : ∀ W, (binOp .eql 89 (.slice (some ⟨g, 0, none⟩) m c) (.slice none 0 0)).run Try.prog W = .ok (.bool false) W := fun W => Lib.run_eql_slice_nil W _ _ _ _ _ _ _ Try.underlying89
  go_enter Try.func48, Try.ntmps48
  go_wp2_with (at_builtin; refine wpList_append_own_at _ rfl _ _ 89 rfl w.heap.size 98 i0 (.agg #[.bool false, .int .u32 0, .int .u32 0]) 3 12 Try.underlying89 hi hz0 hz1 hz2 rfl (by decide) (.slice (some ⟨w.heap.size, 0, none⟩) 0 0) 0 [] rfl hemp.out ⟨g, 0, none⟩ m c xs rfl (by rw [HL.out]) HN.out H1.out (by unfold maxLen; omega) (by omega) (by simp) ?_; intro v' w3 hown' hgrow hnil hloc)
  rw [List.nil_append, Nat.zero_add] at hown'
  obtain ⟨a3, c3, rfl⟩ := own_form hown' h0
  go_wp2
  go_ret
  refine ⟨a3, c3, by simp, hown', ?_⟩
  exact hb0.out.grown hgrow (by simp) (fun k hk => by simp [Value.ownBlock] at hk; omega)

/-- Inputs, with what it tells. -/
theorem InputsOf_any {w : World} {p : Pl} {G : Gr} (hG : Is w p G) (hW : Wf G) (hm : G.nodes.length ≤ 200000) :
    Calls Try.prog 14 #[.pointer (some ⟨p.b, 0, none⟩)] w fun e w' => ∃ (a : Option Addr) (c : Nat), e = .returned (.slice a G.inputs.length c) ∧ w'.ownsRow w.heap.size 3 1 (.slice a G.inputs.length c) G.inputs.length (G.inputs.map (Value.int .i64)) ∧ Below w.heap.size w w' := by
  have hst := Lib.hid (stands_any hG.lay hW.pos)
  have hcn := hW.cnt
  obtain ⟨-, -, -, c3, -, -⟩ := hG.lay.cells
  obtain ⟨ia, ic, hiv⟩ := own_slice hG.lay.inputs
  rw [hiv] at c3
  have hio := hG.lay.inputs
  rw [hiv] at hio
  have hcl := Lib.hid (clone_int hio (by omega))
  clear hG hW hcn hio hiv
  generalize G.inputs.map (Value.int .i64) = xs at *
  generalize G.inputs.length = m at *
  go_enter Try.func14, Try.ntmps14
  go_wp2_with (first
    | (go_at_call 44; refine hst.out.mono ?_; rintro e w2 ⟨rfl, rfl⟩)
    | (go_at_call 45; refine hcl.out.mono ?_; rintro e w2 ⟨a2, cap2, rfl, ho, hB⟩))
  go_ret
  exact ⟨a2, cap2, rfl, ho, hB⟩

theorem clone_map {w : World} {m : Option Nat} {H : Bool} {ns : List Nd} (h : MapIn w m H ns) :
    Calls Try.prog 49 #[.map m] w fun e w' => ∃ m2, e = .returned (.map m2) ∧ MapIn w' m2 H ns ∧ (∀ k, m2 = some k → w.heap.size ≤ k) ∧ Below w.heap.size w w' := by
  unfold MapIn at h
  split at h
  · rename_i hH
    obtain ⟨mb, D, rfl, ho, hD⟩ := h
    have hlt := ho.lt
    obtain ⟨es, clock, hb, F, hs, hE⟩ := ho
    have hq : ∀ W, (binOp .eql 90 (.map (some mb)) (.map none)).run Try.prog W = .ok (.bool false) W := fun W => run_eql_map_nil_sl W _ _ _ _ Try.underlying90
    have hfin : MapIn (w.alloc (.map es clock)) (some w.heap.size) H ns := by
      unfold MapIn
      rw [if_pos hH]
      exact ⟨_, D, rfl, ⟨es, clock, Deep.blk_alloc_new _ _, F, hs, hE⟩, hD⟩
    have hrun := run_maps_clone_sl (P := Try.prog) w 90 hb
    have HF := Lib.hid hfin
    clear hs hE hD F hfin
    go_enter Try.func49, Try.ntmps49
    go_wp2
    rw [run_callFunc_extern Try.func64 (by kernel_rfl) (by kernel_rfl) (by kernel_rfl) (e := Extern.MapsClone.clone) (by kernel_rfl), hrun]
    simp only [Result.andThen]
    rw [Oper.upon_value]
    go_wp2
    rw [run_typeAssert_map_sl _ 90 20 _ _ _ Try.underlying90]
    simp only [Result.andThen]
    rw [Oper.upon_value]
    go_wp2
    go_ret
    exact ⟨_, rfl, HF.out, fun k hk => by cases hk; exact Nat.le_refl _, (Below.refl _ _).alloc (Nat.le_refl _) _⟩
  · rename_i hH
    subst h
    have hq : ∀ W, (binOp .eql 90 (.map none) (.map none)).run Try.prog W = .ok (.bool true) W := fun W => run_eql_map_nil_sl W _ _ _ _ Try.underlying90
    go_enter Try.func49, Try.ntmps49
    go_wp2
    go_ret
    exact ⟨none, rfl, by unfold MapIn; rw [if_neg hH], fun k hk => (by cases hk), Below.refl _ _⟩

theorem CpQ {P : Program} {f : FuncId} {args : Array Value} {w : World} {Q0 : Ending → World → Prop} (h : Calls P f args w Q0) (Q : Ending → World → Prop) (hi : ∀ e w', Q0 e w' → Q e w') : Calls P f args w Q := h.mono hi
/-- The parts of a copy, made one by one. -/
structure CpN (w wk : World) (ns : List Nd) (g c : Nat) : Prop where
  own : wk.ownsRow w.heap.size 98 3 (.slice (some ⟨g, 0, none⟩) ns.length c) ns.length (nodeCells ns)
structure CpI (w wk : World) (ins : List Int) (a : Option Addr) (c : Nat) : Prop where
  own : wk.ownsRow w.heap.size 3 1 (.slice a ins.length c) ins.length (ins.map (Value.int .i64))
structure CpM (w wk : World) (H : Bool) (ns : List Nd) (m : Option Nat) : Prop where
  map : MapIn wk m H ns
  new : ∀ k, m = some k → w.heap.size ≤ k
theorem copy_end {w wk : World} {G : Gr} {g c : Nat} {a : Option Addr} {ci : Nat} {m : Option Nat} (hB : Below w.heap.size w wk) (hN : CpN w wk G.nodes g c) (hI : CpI w wk G.inputs a ci) (hM : CpM w wk G.hash G.nodes m) :
    ∃ p2 : Pl, p2.b = wk.heap.size ∧ Is (wk.alloc (.cells #[.bool G.fold, .bool G.hash, .slice (some ⟨g, 0, none⟩) G.nodes.length c, .slice a G.inputs.length ci, .map m] 92)) p2 G ∧ ∀ k, p2.has k → w.heap.size ≤ k := by
  have hb1 : ∀ o, Below wk.heap.size wk (wk.alloc o) := fun o => (Below.refl _ _).alloc (Nat.le_refl _) _
  refine ⟨⟨wk.heap.size, g, c, .slice a G.inputs.length ci, m⟩, rfl, ⟨⟨Deep.blk_alloc_new _ _, own_base (own_below hN.own (hb1 _)) (Nat.zero_le _), own_base (own_below hI.own (hb1 _)) (Nat.zero_le _)⟩, hM.map.below (hb1 _)⟩, ?_⟩
  intro k hk
  rcases hk with rfl | rfl | hk | hk
  · exact hB.size
  · exact own_ge hN.own _ rfl
  · exact own_ge hI.own _ hk
  · exact hM.new _ hk

set_option maxHeartbeats 1000000 in
theorem Copy_any {w : World} {p : Pl} {G : Gr} (hG : Is w p G) (hW : Wf G) (hm : G.nodes.length ≤ 200000) :
    Calls Try.prog 23 #[.pointer (some ⟨p.b, 0, none⟩)] w fun e w' => ∃ p2 : Pl, e = .returned (.pointer (some ⟨p2.b, 0, none⟩)) ∧ Is w' p2 G ∧ Below w.heap.size w w' ∧ ∀ k, p2.has k → w.heap.size ≤ k := by
  have hst := Lib.hid (stands_any hG.lay hW.pos)
  have hcn := hW.cnt
  obtain ⟨c0, c1, c2, c3, c4, -⟩ := hG.lay.cells
  obtain ⟨ia, ic, hiv⟩ := own_slice hG.lay.inputs
  rw [hiv] at c3
  have hio := hG.lay.inputs
  rw [hiv] at hio
  have hno : w.ownsRow 0 98 3 (.slice (some ⟨p.nb, 0, none⟩) G.nodes.length p.nc) G.nodes.length (nodeCells G.nodes) := hG.lay.nodes
  have hlt := hG.lay.lt
  have hKN := Lib.hid (fun wk (hb : Below w.heap.size w wk) => (CpQ (clone_node (own_below hno hb) hm hW.pos) (fun e w2 => ∃ g2 c2 : Nat, e = .returned (.slice (some ⟨g2, 0, none⟩) G.nodes.length c2) ∧ CpN w w2 G.nodes g2 c2 ∧ Below wk.heap.size wk w2) (fun _ _ ⟨g2, c2, he, ho, hb2⟩ => ⟨g2, c2, he, ⟨own_base ho hb.size⟩, hb2⟩)))
  have hKI := Lib.hid (fun wk (hb : Below w.heap.size w wk) => (CpQ (clone_int (own_below hio hb) (by omega)) (fun e w2 => ∃ (a2 : Option Addr) (c2 : Nat), e = .returned (.slice a2 G.inputs.length c2) ∧ CpI w w2 G.inputs a2 c2 ∧ Below wk.heap.size wk w2) (fun _ _ ⟨g2, c2, he, ho, hb2⟩ => ⟨g2, c2, he, ⟨own_base ho hb.size⟩, hb2⟩)))
  have hKM := Lib.hid (fun wk (hb : Below w.heap.size w wk) => (CpQ (clone_map (hG.map.below hb)) (fun e w2 => ∃ m2, e = .returned (.map m2) ∧ CpM w w2 G.hash G.nodes m2 ∧ Below wk.heap.size wk w2) (fun _ _ ⟨m2, he, hm2, hn2, hb2⟩ => ⟨m2, he, ⟨hm2, fun k hk => Nat.le_trans hb.size (hn2 k hk)⟩, hb2⟩)))
  have hend := Lib.hid (fun wk g c a ci m (h1 : Below w.heap.size w wk) (h2 : CpN w wk G.nodes g c) (h3 : CpI w wk G.inputs a ci) (h4 : CpM w wk G.hash G.nodes m) => copy_end h1 h2 h3 h4)
  have hsN := Lib.hid (fun wk w2 g c (h : CpN w wk G.nodes g c) (hb : Below wk.heap.size wk w2) => CpN.mk (own_below h.own hb))
  have hsI := Lib.hid (fun wk w2 g c (h : CpI w wk G.inputs g c) (hb : Below wk.heap.size wk w2) => CpI.mk (own_below h.own hb))
  have hsM := Lib.hid (fun wk w2 m (h : CpM w wk G.hash G.nodes m) (hb : Below wk.heap.size wk w2) => CpM.mk (h.map.below hb) h.new)
  clear hG hW hcn hiv hio hno hm
  generalize CpN w = PN at *
  generalize CpI w = PI at *
  generalize CpM w = PM at *
  generalize hns : G.nodes = ns at *
  generalize hni : G.inputs = ins at *
  generalize hnf : G.fold = fo at *
  generalize hnh : G.hash = ha at *
  generalize ns.length = n at *
  generalize ins.length = m at *
  have hKeep := Lib.hid (fun (wk w2 : World) (hb : Below w.heap.size w wk) (hb2 : Below wk.heap.size wk w2) (o : Nat) (v : Value) (h : wk.cell? ⟨p.b, o, none⟩ = some v) => stepc hb2 (Nat.lt_of_lt_of_le hlt hb.size) h)
  have I : Below w.heap.size w w.drew := (Below.refl _ _).drew
  go_enter Try.func23, Try.ntmps23
  go_upto_region 3 with (go_at_call 44; refine hst.out.mono ?_; rintro e w2 ⟨rfl, rfl⟩)
  clear hst
  go_region_held3 (fun w' => w'.cell? ⟨p.b, 0, none⟩ = some (.bool fo) ∧ w'.cell? ⟨p.b, 1, none⟩ = some (.bool ha) ∧ w'.cell? ⟨p.b, 2, none⟩ = some (.slice (some ⟨p.nb, 0, none⟩) n p.nc) ∧ w'.cell? ⟨p.b, 3, none⟩ = some (.slice ia m ic) ∧ w'.cell? ⟨p.b, 4, none⟩ = some (.map p.m)) (go_keep)
    (first
      | (go_at_call 48; (with_reducible refine (hKN.out _ I).mono ?_); rintro e w2 ⟨gn, cn, rfl, hN, hb⟩; have hN := Lib.hid hN; (first | (have h1 := Lib.hid (hsI.out _ _ _ _ hI.out hb); clear hI; have hI := h1; clear h1) | (have h1 := Lib.hid (hsI.out _ _ _ hI.out hb); clear hI; have hI := h1; clear h1) | skip); (first | (have h1 := Lib.hid (hsM.out _ _ _ _ hM.out hb); clear hM; have hM := h1; clear h1) | (have h1 := Lib.hid (hsM.out _ _ _ hM.out hb); clear hM; have hM := h1; clear h1) | skip); have q0 := hKeep.out _ _ I hb 0 _ c0; have q1 := hKeep.out _ _ I hb 1 _ c1; have q2 := hKeep.out _ _ I hb 2 _ c2; have q3 := hKeep.out _ _ I hb 3 _ c3; have q4 := hKeep.out _ _ I hb 4 _ c4; have I2 := nextw I hb; clear I hb c0 c1 c2 c3 c4; have I := I2; have c0 := q0; have c1 := q1; have c2 := q2; have c3 := q3; have c4 := q4; clear I2 q0 q1 q2 q3 q4)
      | (go_at_call 45; (with_reducible refine (hKI.out _ I).mono ?_); rintro e w2 ⟨ga, ca, rfl, hI, hb⟩; have hI := Lib.hid hI; (first | (have h1 := Lib.hid (hsN.out _ _ _ _ hN.out hb); clear hN; have hN := h1; clear h1) | (have h1 := Lib.hid (hsN.out _ _ _ hN.out hb); clear hN; have hN := h1; clear h1) | skip); (first | (have h1 := Lib.hid (hsM.out _ _ _ _ hM.out hb); clear hM; have hM := h1; clear h1) | (have h1 := Lib.hid (hsM.out _ _ _ hM.out hb); clear hM; have hM := h1; clear h1) | skip); have q0 := hKeep.out _ _ I hb 0 _ c0; have q1 := hKeep.out _ _ I hb 1 _ c1; have q2 := hKeep.out _ _ I hb 2 _ c2; have q3 := hKeep.out _ _ I hb 3 _ c3; have q4 := hKeep.out _ _ I hb 4 _ c4; have I2 := nextw I hb; clear I hb c0 c1 c2 c3 c4; have I := I2; have c0 := q0; have c1 := q1; have c2 := q2; have c3 := q3; have c4 := q4; clear I2 q0 q1 q2 q3 q4)
      | (go_at_call 49; (with_reducible refine (hKM.out _ I).mono ?_); rintro e w2 ⟨m2, rfl, hM, hb⟩; have hM := Lib.hid hM; (first | (have h1 := Lib.hid (hsN.out _ _ _ _ hN.out hb); clear hN; have hN := h1; clear h1) | (have h1 := Lib.hid (hsN.out _ _ _ hN.out hb); clear hN; have hN := h1; clear h1) | skip); (first | (have h1 := Lib.hid (hsI.out _ _ _ _ hI.out hb); clear hI; have hI := h1; clear h1) | (have h1 := Lib.hid (hsI.out _ _ _ hI.out hb); clear hI; have hI := h1; clear h1) | skip); have q0 := hKeep.out _ _ I hb 0 _ c0; have q1 := hKeep.out _ _ I hb 1 _ c1; have q2 := hKeep.out _ _ I hb 2 _ c2; have q3 := hKeep.out _ _ I hb 3 _ c3; have q4 := hKeep.out _ _ I hb 4 _ c4; have I2 := nextw I hb; clear I hb c0 c1 c2 c3 c4; have I := I2; have c0 := q0; have c1 := q1; have c2 := q2; have c3 := q3; have c4 := q4; clear I2 q0 q1 q2 q3 q4))
  all_goals go_wp2
  all_goals go_ret
  all_goals
    obtain ⟨p2, e1, h1, h2⟩ := hend.out _ _ _ _ _ _ I hN.out hI.out hM.out
    exact ⟨p2, by rw [e1]; rfl, h1, I.alloc I.size _, h2⟩
end Go.Proofs.Ytjdebancpgpebaa
