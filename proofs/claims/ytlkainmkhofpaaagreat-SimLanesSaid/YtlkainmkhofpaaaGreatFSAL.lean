/-
  Inputs, with what it tells; Copy.
  Each input once: open, and what it takes.
-/
import Derived.Test.YtlkainmkhofpaaaGreatFSAG
import Derived.Shelf.SlMaps.Clone
import Derived.Deep.RegionHeld3
import Derived.Deep.CutBlock
import Derived.Deep.DeepCutAuto
import Derived.Test.YtlkainmkhofpaaaGreatFSAK
section
namespace Go.Proofs.YtlkainmkhofpaaaGreat
open Go.RowKit Go.Maps
set_option maxRecDepth 100000

theorem clone_int {w : World} {base : Nat} {a : Option Addr} {m c : Nat} {l : List Int} (h : w.ownsRow base 3 1 (.slice a m c) m (l.map (Value.int .i64))) (hm : m ≤ 200000) :
    Calls Tryz.prog 89 #[.slice a m c] w fun e w' => ∃ (a2 : Option Addr) (c2 : Nat), e = .returned (.slice a2 m c2) ∧ w'.ownsRow w.heap.size 3 1 (.slice a2 m c2) m (l.map (Value.int .i64)) ∧ Below w.heap.size w w' := by
  obtain ⟨i0, hi, hz0, hz1, hz2⟩ := info_parts info_int
  have hlen : (l.map (Value.int .i64)).length = m := by have := h.1; simpa using this
  have hone : ∀ u ∈ l.map (Value.int .i64), u.oneCell' = true := by
    intro u hu
    obtain ⟨z, -, rfl⟩ := List.mem_map.1 hu
    rfl
  generalize l.map (Value.int .i64) = xs at *
  rcases h.2 with ⟨h0, h1⟩ | ⟨g, cap', cur, hv, -, -⟩
  · simp at h0
    obtain ⟨rfl, rfl, rfl⟩ := h0
    obtain rfl : xs = [] := List.length_eq_zero_iff.1 hlen
    clear h hlen hone h1
    have heq : ∀ W, (binOp .eql 140 (.slice none 0 0) (.slice none 0 0)).run Tryz.prog W = .ok (.bool true) W := fun W => Lib.run_eql_slice_nil W _ _ _ _ _ _ _ Tryz.underlying140
    go_enter Tryz.func89, Tryz.ntmps89
    go_wp2
    go_ret
    exact ⟨none, 0, rfl, own_nil _ _ _, Below.refl _ _⟩
  · simp at hv
    obtain ⟨rfl, rfl⟩ := hv
    have hlt := own_lt h
    have hcells := h.cells (g := g) rfl
    have HO := Lib.hid (fun j u (h : xs[j]? = some u) => hcells j u h)
    have HL := Lib.hid hlen
    have H1 := Lib.hid hone
    have hemp : Hid ((w.alloc (.cells #[] 3)).ownsRow w.heap.size 3 1 (.slice (some ⟨w.heap.size, 0, none⟩) 0 0) 0 []) := Lib.hid ⟨rfl, .inr ⟨w.heap.size, 0, #[], rfl, Nat.le_refl _, Deep.blk_alloc_new _ _, Nat.le_refl _, by decide, rfl, rfl⟩⟩
    have hb0 : Hid (Below w.heap.size w (w.alloc (.cells #[] 3))) := Lib.hid ((Below.refl _ _).alloc (Nat.le_refl _) _)
    have hadd : ∀ j, (⟨g, 0, none⟩ : Addr).add j = ⟨g, j, none⟩ := fun j => by simp [Addr.add]; omega
    have HN := Lib.hid (fun j u (h : xs[j]? = some u) => (hb0.out.cell (p := (⟨g, 0, none⟩ : Addr).add j) (by rw [hadd]; exact hlt)).trans (HO.out j u h))
    clear h hcells hlen hone hadd
    have heq : ∀ W, (binOp .eql 140 (.slice (some ⟨g, 0, none⟩) m c) (.slice none 0 0)).run Tryz.prog W = .ok (.bool false) W := fun W => Lib.run_eql_slice_nil W _ _ _ _ _ _ _ Tryz.underlying140
    go_enter Tryz.func89, Tryz.ntmps89
    go_wp2_with (at_builtin; refine wpList_append_own_at _ rfl _ _ 140 rfl w.heap.size 3 i0 (.int .i64 0) 1 8 Tryz.underlying140 hi hz0 hz1 hz2 rfl (by decide) (.slice (some ⟨w.heap.size, 0, none⟩) 0 0) 0 [] rfl hemp.out ⟨g, 0, none⟩ m c xs rfl (by rw [HL.out]; omega) HN.out H1.out (by unfold maxLen; omega) (by omega) (by simp) ?_; intro v' w3 hown' hgrow hnil hloc)
    obtain ⟨a3, c3, rfl⟩ := own_slice hown'
    go_wp2
    go_ret
    rw [List.nil_append, Nat.zero_add] at hown'
    refine ⟨a3, c3, by simp, hown', ?_⟩
    exact hb0.out.grown hgrow (by simp) (fun k hk => by simp [Value.ownBlock] at hk; omega)

theorem node_one (ns : List Nd) : ∀ u ∈ nodeCells ns, u.oneCell' = true := by
  intro u hu
  obtain ⟨n, -, hn⟩ := List.mem_flatMap.1 hu
  simp [ndCells] at hn
  rcases hn with rfl | rfl | rfl <;> rfl
theorem clone_node {w : World} {g m c : Nat} {ns : List Nd} (h : w.ownsRow 0 148 3 (.slice (some ⟨g, 0, none⟩) m c) m (nodeCells ns)) (hm : m ≤ 200000) (h0 : 0 < m) :
    Calls Tryz.prog 88 #[.slice (some ⟨g, 0, none⟩) m c] w fun e w' => ∃ g2 c2 : Nat, e = .returned (.slice (some ⟨g2, 0, none⟩) m c2) ∧ w'.ownsRow w.heap.size 148 3 (.slice (some ⟨g2, 0, none⟩) m c2) m (nodeCells ns) ∧ Below w.heap.size w w' := by
  obtain ⟨i0, hi, hz0, hz1, hz2⟩ := info_parts info_node
  have hlen : (nodeCells ns).length = m * 3 := h.1
  have hone := node_one ns
  have hlt := own_lt h
  have hcells := h.cells (g := g) rfl
  generalize nodeCells ns = xs at *
  have HO := Lib.hid (fun j u (h : xs[j]? = some u) => hcells j u h)
  have HL := Lib.hid hlen
  have H1 := Lib.hid hone
  have hemp : Hid ((w.alloc (.cells #[] 148)).ownsRow w.heap.size 148 3 (.slice (some ⟨w.heap.size, 0, none⟩) 0 0) 0 []) := Lib.hid ⟨rfl, .inr ⟨w.heap.size, 0, #[], rfl, Nat.le_refl _, Deep.blk_alloc_new _ _, Nat.le_refl _, by decide, rfl, rfl⟩⟩
  have hb0 : Hid (Below w.heap.size w (w.alloc (.cells #[] 148))) := Lib.hid ((Below.refl _ _).alloc (Nat.le_refl _) _)
  have hadd : ∀ j, (⟨g, 0, none⟩ : Addr).add j = ⟨g, j, none⟩ := fun j => by simp [Addr.add]; omega
  have HN := Lib.hid (fun j u (h : xs[j]? = some u) => (hb0.out.cell (p := (⟨g, 0, none⟩ : Addr).add j) (by rw [hadd]; exact hlt)).trans (HO.out j u h))
  clear h hcells hlen hone hadd
  have heq : ∀ W, (binOp .eql 139 (.slice (some ⟨g, 0, none⟩) m c) (.slice none 0 0)).run Tryz.prog W = .ok (.bool false) W := fun W => Lib.run_eql_slice_nil W _ _ _ _ _ _ _ Tryz.underlying139
  go_enter Tryz.func88, Tryz.ntmps88
  go_wp2_with (at_builtin; refine wpList_append_own_at _ rfl _ _ 139 rfl w.heap.size 148 i0 (.agg #[.bool false, .int .u32 0, .int .u32 0]) 3 12 Tryz.underlying139 hi hz0 hz1 hz2 rfl (by decide) (.slice (some ⟨w.heap.size, 0, none⟩) 0 0) 0 [] rfl hemp.out ⟨g, 0, none⟩ m c xs rfl (by rw [HL.out]) HN.out H1.out (by unfold maxLen; omega) (by omega) (by simp) ?_; intro v' w3 hown' hgrow hnil hloc)
  rw [List.nil_append, Nat.zero_add] at hown'
  obtain ⟨a3, c3, rfl⟩ := own_form hown' h0
  go_wp2
  go_ret
  refine ⟨a3, c3, by simp, hown', ?_⟩
  exact hb0.out.grown hgrow (by simp) (fun k hk => by simp [Value.ownBlock] at hk; omega)

/-- Inputs, with what it tells. -/
theorem InputsOf_any {w : World} {p : Pl} {G : Gr} (hG : Is w p G) (hW : Wf G) (hm : G.nodes.length ≤ 200000) :
    Calls Tryz.prog 99 #[.pointer (some ⟨p.b, 0, none⟩)] w fun e w' => ∃ (a : Option Addr) (c : Nat), e = .returned (.slice a G.inputs.length c) ∧ w'.ownsRow w.heap.size 3 1 (.slice a G.inputs.length c) G.inputs.length (G.inputs.map (Value.int .i64)) ∧ Below w.heap.size w w' := by
  have hst := Lib.hid (stands_any hG.lay hW.pos)
  have hcn := hW.cnt
  obtain ⟨-, -, -, c3, -, -⟩ := hG.lay.cells
  obtain ⟨ia, ic, hiv⟩ := own_slice hG.lay.inputs
  rw [hiv] at c3
  have hio := hG.lay.inputs
  rw [hiv] at hio
  have hcl := Lib.hid (clone_int hio (by omega))
  clear hG hW hcn hio hiv
  generalize G.inputs.map (Value.int .i64) = xs at *
  generalize G.inputs.length = m at *
  go_enter Tryz.func99, Tryz.ntmps99
  go_wp2_with (first
    | (go_at_call 64; refine hst.out.mono ?_; rintro e w2 ⟨rfl, rfl⟩)
    | (go_at_call 89; refine hcl.out.mono ?_; rintro e w2 ⟨a2, cap2, rfl, ho, hB⟩))
  go_ret
  exact ⟨a2, cap2, rfl, ho, hB⟩

theorem clone_map {w : World} {m : Option Nat} {H : Bool} {ns : List Nd} (h : MapIn w m H ns) :
    Calls Tryz.prog 90 #[.map m] w fun e w' => ∃ m2, e = .returned (.map m2) ∧ MapIn w' m2 H ns ∧ (∀ k, m2 = some k → w.heap.size ≤ k) ∧ Below w.heap.size w w' := by
  unfold MapIn at h
  split at h
  · rename_i hH
    obtain ⟨mb, D, rfl, ho, hD⟩ := h
    have hlt := ho.lt
    obtain ⟨es, clock, hb, F, hs, hE⟩ := ho
    have hq : ∀ W, (binOp .eql 141 (.map (some mb)) (.map none)).run Tryz.prog W = .ok (.bool false) W := fun W => run_eql_map_nil_sl W _ _ _ _ Tryz.underlying141
    have hfin : MapIn (w.alloc (.map es clock)) (some w.heap.size) H ns := by
      unfold MapIn
      rw [if_pos hH]
      exact ⟨_, D, rfl, ⟨es, clock, Deep.blk_alloc_new _ _, F, hs, hE⟩, hD⟩
    have hrun := run_maps_clone_sl (P := Tryz.prog) w 141 hb
    have HF := Lib.hid hfin
    clear hs hE hD F hfin
    go_enter Tryz.func90, Tryz.ntmps90
    go_wp2
    rw [run_callFunc_extern Tryz.func114 (by kernel_rfl) (by kernel_rfl) (by kernel_rfl) (e := Extern.MapsClone.clone) (by kernel_rfl), hrun]
    simp only [Result.andThen]
    rw [Oper.upon_value]
    go_wp2
    rw [run_typeAssert_map_sl _ 141 20 _ _ _ Tryz.underlying141]
    simp only [Result.andThen]
    rw [Oper.upon_value]
    go_wp2
    go_ret
    exact ⟨_, rfl, HF.out, fun k hk => by cases hk; exact Nat.le_refl _, (Below.refl _ _).alloc (Nat.le_refl _) _⟩
  · rename_i hH
    subst h
    have hq : ∀ W, (binOp .eql 141 (.map none) (.map none)).run Tryz.prog W = .ok (.bool true) W := fun W => run_eql_map_nil_sl W _ _ _ _ Tryz.underlying141
    go_enter Tryz.func90, Tryz.ntmps90
    go_wp2
    go_ret
    exact ⟨none, rfl, by unfold MapIn; rw [if_neg hH], fun k hk => (by cases hk), Below.refl _ _⟩

theorem CpQ {P : Program} {f : FuncId} {args : Array Value} {w : World} {Q0 : Ending → World → Prop} (h : Calls P f args w Q0) (Q : Ending → World → Prop) (hi : ∀ e w', Q0 e w' → Q e w') : Calls P f args w Q := h.mono hi
/-- The parts of a copy, made one by one. -/
structure CpN (w wk : World) (ns : List Nd) (g c : Nat) : Prop where
  own : wk.ownsRow w.heap.size 148 3 (.slice (some ⟨g, 0, none⟩) ns.length c) ns.length (nodeCells ns)
structure CpI (w wk : World) (ins : List Int) (a : Option Addr) (c : Nat) : Prop where
  own : wk.ownsRow w.heap.size 3 1 (.slice a ins.length c) ins.length (ins.map (Value.int .i64))
structure CpM (w wk : World) (H : Bool) (ns : List Nd) (m : Option Nat) : Prop where
  map : MapIn wk m H ns
  new : ∀ k, m = some k → w.heap.size ≤ k
theorem copy_end {w wk : World} {G : Gr} {g c : Nat} {a : Option Addr} {ci : Nat} {m : Option Nat} (hB : Below w.heap.size w wk) (hN : CpN w wk G.nodes g c) (hI : CpI w wk G.inputs a ci) (hM : CpM w wk G.hash G.nodes m) :
    ∃ p2 : Pl, p2.b = wk.heap.size ∧ Is (wk.alloc (.cells #[.bool G.fold, .bool G.hash, .slice (some ⟨g, 0, none⟩) G.nodes.length c, .slice a G.inputs.length ci, .map m] 143)) p2 G ∧ ∀ k, p2.has k → w.heap.size ≤ k := by
  have hb1 : ∀ o, Below wk.heap.size wk (wk.alloc o) := fun o => (Below.refl _ _).alloc (Nat.le_refl _) _
  refine ⟨⟨wk.heap.size, g, c, .slice a G.inputs.length ci, m⟩, rfl, ⟨⟨Deep.blk_alloc_new _ _, own_base (own_below hN.own (hb1 _)) (Nat.zero_le _), own_base (own_below hI.own (hb1 _)) (Nat.zero_le _)⟩, hM.map.below (hb1 _)⟩, ?_⟩
  intro k hk
  rcases hk with rfl | rfl | hk | hk
  · exact hB.size
  · exact own_ge hN.own _ rfl
  · exact own_ge hI.own _ hk
  · exact hM.new _ hk

set_option maxHeartbeats 1000000 in
theorem Copy_any {w : World} {p : Pl} {G : Gr} (hG : Is w p G) (hW : Wf G) (hm : G.nodes.length ≤ 200000) :
    Calls Tryz.prog 40 #[.pointer (some ⟨p.b, 0, none⟩)] w fun e w' => ∃ p2 : Pl, e = .returned (.pointer (some ⟨p2.b, 0, none⟩)) ∧ Is w' p2 G ∧ Below w.heap.size w w' ∧ ∀ k, p2.has k → w.heap.size ≤ k := by
  have hst := Lib.hid (stands_any hG.lay hW.pos)
  have hcn := hW.cnt
  obtain ⟨c0, c1, c2, c3, c4, -⟩ := hG.lay.cells
  obtain ⟨ia, ic, hiv⟩ := own_slice hG.lay.inputs
  rw [hiv] at c3
  have hio := hG.lay.inputs
  rw [hiv] at hio
  have hno : w.ownsRow 0 148 3 (.slice (some ⟨p.nb, 0, none⟩) G.nodes.length p.nc) G.nodes.length (nodeCells G.nodes) := hG.lay.nodes
  have hlt := hG.lay.lt
  have hKN := Lib.hid (fun wk (hb : Below w.heap.size w wk) => (CpQ (clone_node (own_below hno hb) hm hW.pos) (fun e w2 => ∃ g2 c2 : Nat, e = .returned (.slice (some ⟨g2, 0, none⟩) G.nodes.length c2) ∧ CpN w w2 G.nodes g2 c2 ∧ Below wk.heap.size wk w2) (fun _ _ ⟨g2, c2, he, ho, hb2⟩ => ⟨g2, c2, he, ⟨own_base ho hb.size⟩, hb2⟩)))
  have hKI := Lib.hid (fun wk (hb : Below w.heap.size w wk) => (CpQ (clone_int (own_below hio hb) (by omega)) (fun e w2 => ∃ (a2 : Option Addr) (c2 : Nat), e = .returned (.slice a2 G.inputs.length c2) ∧ CpI w w2 G.inputs a2 c2 ∧ Below wk.heap.size wk w2) (fun _ _ ⟨g2, c2, he, ho, hb2⟩ => ⟨g2, c2, he, ⟨own_base ho hb.size⟩, hb2⟩)))
  have hKM := Lib.hid (fun wk (hb : Below w.heap.size w wk) => (CpQ (clone_map (hG.map.below hb)) (fun e w2 => ∃ m2, e = .returned (.map m2) ∧ CpM w w2 G.hash G.nodes m2 ∧ Below wk.heap.size wk w2) (fun _ _ ⟨m2, he, hm2, hn2, hb2⟩ => ⟨m2, he, ⟨hm2, fun k hk => Nat.le_trans hb.size (hn2 k hk)⟩, hb2⟩)))
  have hend := Lib.hid (fun wk g c a ci m (h1 : Below w.heap.size w wk) (h2 : CpN w wk G.nodes g c) (h3 : CpI w wk G.inputs a ci) (h4 : CpM w wk G.hash G.nodes m) => copy_end h1 h2 h3 h4)
  have hsN := Lib.hid (fun wk w2 g c (h : CpN w wk G.nodes g c) (hb : Below wk.heap.size wk w2) => CpN.mk (own_below h.own hb))
  have hsI := Lib.hid (fun wk w2 g c (h : CpI w wk G.inputs g c) (hb : Below wk.heap.size wk w2) => CpI.mk (own_below h.own hb))
  have hsM := Lib.hid (fun wk w2 m (h : CpM w wk G.hash G.nodes m) (hb : Below wk.heap.size wk w2) => CpM.mk (h.map.below hb) h.new)
  clear hG hW hcn hiv hio hno hm
  generalize CpN w = PN at *
  generalize CpI w = PI at *
  generalize CpM w = PM at *
  generalize hns : G.nodes = ns at *
  generalize hni : G.inputs = ins at *
  generalize hnf : G.fold = fo at *
  generalize hnh : G.hash = ha at *
  generalize ns.length = n at *
  generalize ins.length = m at *
  have hKeep := Lib.hid (fun (wk w2 : World) (hb : Below w.heap.size w wk) (hb2 : Below wk.heap.size wk w2) (o : Nat) (v : Value) (h : wk.cell? ⟨p.b, o, none⟩ = some v) => stepc hb2 (Nat.lt_of_lt_of_le hlt hb.size) h)
  have I : Below w.heap.size w w.drew := (Below.refl _ _).drew
  go_enter Tryz.func40, Tryz.ntmps40
  go_upto_region 3 with (go_at_call 64; refine hst.out.mono ?_; rintro e w2 ⟨rfl, rfl⟩)
  clear hst
  go_region_held3 (fun w' => w'.cell? ⟨p.b, 0, none⟩ = some (.bool fo) ∧ w'.cell? ⟨p.b, 1, none⟩ = some (.bool ha) ∧ w'.cell? ⟨p.b, 2, none⟩ = some (.slice (some ⟨p.nb, 0, none⟩) n p.nc) ∧ w'.cell? ⟨p.b, 3, none⟩ = some (.slice ia m ic) ∧ w'.cell? ⟨p.b, 4, none⟩ = some (.map p.m)) (go_keep)
    (first
      | (go_at_call 88; (with_reducible refine (hKN.out _ I).mono ?_); rintro e w2 ⟨gn, cn, rfl, hN, hb⟩; have hN := Lib.hid hN; (first | (have h1 := Lib.hid (hsI.out _ _ _ _ hI.out hb); clear hI; have hI := h1; clear h1) | (have h1 := Lib.hid (hsI.out _ _ _ hI.out hb); clear hI; have hI := h1; clear h1) | skip); (first | (have h1 := Lib.hid (hsM.out _ _ _ _ hM.out hb); clear hM; have hM := h1; clear h1) | (have h1 := Lib.hid (hsM.out _ _ _ hM.out hb); clear hM; have hM := h1; clear h1) | skip); have q0 := hKeep.out _ _ I hb 0 _ c0; have q1 := hKeep.out _ _ I hb 1 _ c1; have q2 := hKeep.out _ _ I hb 2 _ c2; have q3 := hKeep.out _ _ I hb 3 _ c3; have q4 := hKeep.out _ _ I hb 4 _ c4; have I2 := nextw I hb; clear I hb c0 c1 c2 c3 c4; have I := I2; have c0 := q0; have c1 := q1; have c2 := q2; have c3 := q3; have c4 := q4; clear I2 q0 q1 q2 q3 q4)
      | (go_at_call 89; (with_reducible refine (hKI.out _ I).mono ?_); rintro e w2 ⟨ga, ca, rfl, hI, hb⟩; have hI := Lib.hid hI; (first | (have h1 := Lib.hid (hsN.out _ _ _ _ hN.out hb); clear hN; have hN := h1; clear h1) | (have h1 := Lib.hid (hsN.out _ _ _ hN.out hb); clear hN; have hN := h1; clear h1) | skip); (first | (have h1 := Lib.hid (hsM.out _ _ _ _ hM.out hb); clear hM; have hM := h1; clear h1) | (have h1 := Lib.hid (hsM.out _ _ _ hM.out hb); clear hM; have hM := h1; clear h1) | skip); have q0 := hKeep.out _ _ I hb 0 _ c0; have q1 := hKeep.out _ _ I hb 1 _ c1; have q2 := hKeep.out _ _ I hb 2 _ c2; have q3 := hKeep.out _ _ I hb 3 _ c3; have q4 := hKeep.out _ _ I hb 4 _ c4; have I2 := nextw I hb; clear I hb c0 c1 c2 c3 c4; have I := I2; have c0 := q0; have c1 := q1; have c2 := q2; have c3 := q3; have c4 := q4; clear I2 q0 q1 q2 q3 q4)
      | (go_at_call 90; (with_reducible refine (hKM.out _ I).mono ?_); rintro e w2 ⟨m2, rfl, hM, hb⟩; have hM := Lib.hid hM; (first | (have h1 := Lib.hid (hsN.out _ _ _ _ hN.out hb); clear hN; have hN := h1; clear h1) | (have h1 := Lib.hid (hsN.out _ _ _ hN.out hb); clear hN; have hN := h1; clear h1) | skip); (first | (have h1 := Lib.hid (hsI.out _ _ _ _ hI.out hb); clear hI; have hI := h1; clear h1) | (have h1 := Lib.hid (hsI.out _ _ _ hI.out hb); clear hI; have hI := h1; clear h1) | skip); have q0 := hKeep.out _ _ I hb 0 _ c0; have q1 := hKeep.out _ _ I hb 1 _ c1; have q2 := hKeep.out _ _ I hb 2 _ c2; have q3 := hKeep.out _ _ I hb 3 _ c3; have q4 := hKeep.out _ _ I hb 4 _ c4; have I2 := nextw I hb; clear I hb c0 c1 c2 c3 c4; have I := I2; have c0 := q0; have c1 := q1; have c2 := q2; have c3 := q3; have c4 := q4; clear I2 q0 q1 q2 q3 q4))
  all_goals go_wp2
  all_goals go_ret
  all_goals
    obtain ⟨p2, e1, h1, h2⟩ := hend.out _ _ _ _ _ _ I hN.out hI.out hM.out
    exact ⟨p2, by rw [e1]; rfl, h1, I.alloc I.size _, h2⟩
end Go.Proofs.YtlkainmkhofpaaaGreat
end

section
namespace Go.Proofs.YtlkainmkhofpaaaGreat
open Go.RowKit Go.Maps Bits
set_option maxRecDepth 100000

/-- The free nodes, while they are taken. -/
structure Tk (w0 : World) (q : NPl) (n qn qf qt fb : Nat) (rest : List Int) (t : Int) (wr : World) : Prop where
  below : Below w0.heap.size w0 wr
  cn : wr.cell? ⟨qn, 0, none⟩ = some (.pointer (some ⟨q.b, 0, none⟩))
  cf : wr.cell? ⟨qf, 0, none⟩ = some (.slice (some ⟨fb, 0, none⟩) n n)
  ct : wr.cell? ⟨qt, 0, none⟩ = some (.int .i64 t)
  ft : wr.frozen? ⟨qt, 0, none⟩ = false
  free : wr.ownsRow w0.heap.size 4 1 (.slice (some ⟨fb, 0, none⟩) n n) n (freeL n rest)
  far : qn ≠ fb ∧ qf ≠ fb ∧ qt ≠ fb ∧ qn ≠ qt ∧ qf ≠ qt
  old : w0.heap.size ≤ qt
theorem Tk.step {w0 : World} {q : NPl} {n qn qf qt fb : Nat} {rest : List Int} {t : Int} {wr w2 : World} (h : Tk w0 q n qn qf qt fb rest t wr) (hb : Below wr.heap.size wr w2) : Tk w0 q n qn qf qt fb rest t w2 :=
  ⟨nextw h.below hb, stepc hb (World.block_lt_of_cell? wr _ h.cn) h.cn, stepc hb (World.block_lt_of_cell? wr _ h.cf) h.cf, stepc hb (World.block_lt_of_cell? wr _ h.ct) h.ct, ((bcell hb).2 _ _ (World.block_lt_of_cell? wr _ h.ct)).trans h.ft, own_below h.free hb, h.far, h.old⟩
theorem Tk.take {w0 : World} {q : NPl} {n qn qf qt fb k : Nat} {G : Gr} {rest : List Int} {t : Int} {wr : World} (h : Tk w0 q n qn qf qt fb (2 * (k : Int) :: rest) t wr) (hl : Left G (2 * (k : Int) :: rest)) : Tk w0 q n qn qf qt fb rest t (wr.setCell ⟨fb, k, none⟩ (.bool false)) := by
  obtain ⟨f1, f2, f3, f4, f5⟩ := h.far
  have hst := (h.free.stored k (.bool false)).1
  rw [freeL_take hl] at hst
  have hge := own_ge h.free fb rfl
  refine ⟨h.below.setCell hge _, ?_, ?_, ?_, ?_, hst, h.far, h.old⟩
  · have := h.cn; simp [go_sem]; exact this
  · have := h.cf; simp [go_sem]; exact this
  · have := h.ct; simp [go_sem]; exact this
  · have := h.ft; simp [go_sem]; exact this
theorem Tk.count {w0 : World} {q : NPl} {n qn qf qt fb : Nat} {rest : List Int} {t : Int} {wr : World} (h : Tk w0 q n qn qf qt fb rest t wr) (t' : Int) : Tk w0 q n qn qf qt fb rest t' (wr.setCell ⟨qt, 0, none⟩ (.int .i64 t')) := by
  obtain ⟨f1, f2, f3, f4, f5⟩ := h.far
  refine ⟨h.below.setCell h.old _, ?_, ?_, ?_, ?_, ?_, h.far, h.old⟩
  · have := h.cn; simp [go_sem]; exact this
  · have := h.cf; simp [go_sem]; exact this
  · obtain ⟨u, hu⟩ : ∃ u, wr.cell? ⟨qt, 0, none⟩ = some u := ⟨_, h.ct⟩
    simp [go_sem, hu]
  · have := h.ft; simp [go_sem]; exact this
  · have hf := h.free
    refine ⟨hf.1, ?_⟩
    rcases hf.2 with h0 | ⟨g, cap, cur, hv, hg, hh, r⟩
    · exact .inl h0
    · have e : g = fb := by simp at hv; exact hv.1.symm
      subst e
      exact .inr ⟨_, cap, cur, hv, hg, by rw [Below.heap_setCell _ _ _ _ (fun e => f3 e.symm)]; exact hh, r⟩
theorem row1 (w : World) (x : Int) (T : Nat) : Row .u32 (w.alloc (.cells #[.int .u32 x] T)) (some ⟨w.heap.size, 0, none⟩) 1 [x] := by
  refine ⟨rfl, by omega, .inr ⟨w.heap.size, 0, rfl, by simp, fun i hi => ?_⟩⟩
  match i, hi with
  | 0, _ => simp [go_sem]
  | i + 1, h => omega
set_option maxHeartbeats 2000000 in
theorem take_any {w0 wr : World} {q : NPl} {N : Nt} {rest : List Int} {l : List Int} (h : NetIs w0 q N) (hg : Good N rest) {qn qf qt fb k : Nat} {t : Nat} (hT : Tk w0 q N.g.nodes.length qn qf qt fb (2 * (k : Int) :: l) t wr) (hl : Left N.g (2 * (k : Int) :: l)) (ht : t ≤ 1000000) (hm : N.g.nodes.length ≤ 200000) :
    Calls Tryz.prog 112 #[.int .u32 (2 * (k : Int)), .pointer (some ⟨qn, 0, none⟩), .pointer (some ⟨qf, 0, none⟩), .pointer (some ⟨qt, 0, none⟩)] wr fun e w' => e = .returned (.bool true) ∧ Tk w0 q N.g.nodes.length qn qf qt fb l (t + 1 : Nat) w' := by
  obtain ⟨i, hi, h0, hin⟩ := hl.lit (2 * (k : Int)) (by simp)
  obtain rfl : i = k := by omega
  have hx : IsLit (2 * (i : Int)) := by unfold IsLit; omega
  have htu := Lib.hid (fun w => turned_any (2 * (i : Int)) hx w)
  have htv : turnV (2 * (i : Int)) = false := by unfold turnV; rw [show (2 * (i : Int)) % 2 = 0 by omega]; rfl
  rw [htv] at htu
  have hnd := Lib.hid (fun w => (show Calls Tryz.prog 63 #[.int .u32 (2 * (i : Int))] w fun e w' => e = .returned (.int .i64 (i : Int)) ∧ w = w' by have := node_any (2 * (i : Int)) hx w; rw [show 2 * (i : Int) / 2 = i by omega] at this; exact this))
  have hba : Below wr.heap.size wr (wr.alloc (.cells #[.int .u32 (2 * (i : Int))] 40)).drew := ((Below.refl wr.heap.size wr).alloc (Nat.le_refl _) _).drew
  have hhas := Lib.hid (show Calls Tryz.prog 45 #[.pointer (some ⟨q.b, 0, none⟩), .slice (some ⟨wr.heap.size, 0, none⟩) 1 1] (wr.alloc (.cells #[.int .u32 (2 * (i : Int))] 40)).drew fun e w' => e = .returned (.bool true) ∧ Below (wr.alloc (.cells #[.int .u32 (2 * (i : Int))] 40)).drew.heap.size (wr.alloc (.cells #[.int .u32 (2 * (i : Int))] 40)).drew w' from by
    have hb3 := nextw hT.below hba
    have := has_any (h.below hb3) hg.wf.pos (c := 1) ((row1 wr (2 * (i : Int)) 40).step ((Below.refl _ _).drew)) (by intro y hy; simp at hy; subst hy; exact hx)
    rw [allHas_of (G := N.g) (l := [2 * (i : Int)]) (by intro y hy; simp at hy; subst hy; exact ⟨hx, by omega⟩)] at this
    exact this)
  have hba := Lib.hid hba
  have hS := Lib.hid (fun w2 (hb2 : Below wr.heap.size wr w2) => hT.step hb2)
  have hfin := Lib.hid (fun w2 (h2 : Tk w0 q N.g.nodes.length qn qf qt fb (2 * (i : Int) :: l) t w2) => (h2.take hl))
  have hcell := Lib.hid (fun w2 (h2 : Tk w0 q N.g.nodes.length qn qf qt fb (2 * (i : Int) :: l) t w2) => (show w2.cell? ⟨fb, i, none⟩ = some (.bool true) ∧ w2.frozen? ⟨fb, i, none⟩ = false from ⟨by rw [h2.free.cellAt i (by omega), freeL_at _ _ hin, freeB_head], h2.free.frozenAt i⟩))
  have hcnt := Lib.hid (fun w2 (h2 : Tk w0 q N.g.nodes.length qn qf qt fb l t w2) => (show w2.cell? ⟨qt, 0, none⟩ = some (.int .i64 t) ∧ w2.frozen? ⟨qt, 0, none⟩ = false ∧ Tk w0 q N.g.nodes.length qn qf qt fb l (t + 1 : Nat) (w2.setCell ⟨qt, 0, none⟩ (.int .i64 ((t : Int) + 1))) from ⟨h2.ct, h2.ft, h2.count _⟩))
  have c0 := hT.cn
  have c1 := hT.cf
  obtain ⟨c3, c4⟩ := hcell.out _ hT
  have l0 := World.block_lt_of_cell? wr _ c0
  have l1 := World.block_lt_of_cell? wr _ c1
  have l3 := World.block_lt_of_cell? wr _ c3
  simp only [] at l0 l1 l3
  have hwr := Lib.hid (Below.refl wr.heap.size wr)
  clear h hg hT hl htv hx hi
  generalize N.g.nodes.length = n at *
  go_enter Tryz.func112, Tryz.ntmps112
  go_upto_region 1 with fail
  generalize hxx : 2 * (i : Int) = x at *
  clear hxx
  go_region_law (first
    | (go_simp; go_at_call 113; (with_reducible refine (htu.out _).mono ?_); rintro e w5 ⟨rfl, rfl⟩)
    | (go_simp; go_at_call 63; (with_reducible refine (hnd.out _).mono ?_); rintro e w5 ⟨rfl, rfl⟩)
    | (go_simp; go_at_call 45; (with_reducible refine hhas.out.mono ?_); rintro e w6 ⟨rfl, hb6⟩; have hb7 := nextw hba.out hb6; have d0 := stepc hb7 l0 c0; have d1 := stepc hb7 l1 c1; have d3 := stepc hb7 l3 c3; have hb7 := Lib.hid hb7))
  all_goals simp only [List.getElem_toArray, List.getElem_cons_succ, List.getElem_cons_zero, Act.put, List.setIfInBounds_toArray, List.set_cons_succ, List.set_cons_zero]
  all_goals
    have hT6 := hS.out _ hb7.out
    obtain ⟨-, m4⟩ := hcell.out _ hT6
    have hT7 := hfin.out _ hT6
    have hT8 := Lib.hid (hT7.step (Below.refl _ _).drew)
    have m1 := hT7.ct
    have m2 := hT7.ft
    clear hT6 hT7 hb6 c0 c1 c3 c4 d0 hS hfin hcell hwr hhas hba htu
    go_wp2
    go_region_law (go_simp; go_at_call 63; (with_reducible refine (hnd.out _).mono ?_); rintro e w5 ⟨rfl, rfl⟩)
    all_goals go_wp2
    all_goals go_ret
    all_goals exact ⟨rfl, (hcnt.out _ hT8.out).2.2⟩
theorem take_lit {w0 wr : World} {q : NPl} {N : Nt} {rest : List Int} {l : List Int} (h : NetIs w0 q N) (hg : Good N rest) {qn qf qt fb : Nat} {x : Int} {t : Nat} (hT : Tk w0 q N.g.nodes.length qn qf qt fb (x :: l) t wr) (hl : Left N.g (x :: l)) (ht : t ≤ 1000000) (hm : N.g.nodes.length ≤ 200000) :
    Calls Tryz.prog 112 #[.int .u32 x, .pointer (some ⟨qn, 0, none⟩), .pointer (some ⟨qf, 0, none⟩), .pointer (some ⟨qt, 0, none⟩)] wr fun e w' => e = .returned (.bool true) ∧ Tk w0 q N.g.nodes.length qn qf qt fb l (t + 1 : Nat) w' := by
  obtain ⟨k, hk, h0, hin⟩ := hl.lit x (by simp)
  subst hk
  exact take_any h hg hT hl ht hm

/-- The free nodes, while they are marked. -/
structure Mk (w0 : World) (q : NPl) (n qn qf fb : Nat) (ia : Option Addr) (m ic : Nat) (I l : List Int) (wr : World) : Prop where
  below : Below w0.heap.size w0 wr
  cn : wr.cell? ⟨qn, 0, none⟩ = some (.pointer (some ⟨q.b, 0, none⟩))
  cf : wr.cell? ⟨qf, 0, none⟩ = some (.slice (some ⟨fb, 0, none⟩) n n)
  free : wr.ownsRow w0.heap.size 4 1 (.slice (some ⟨fb, 0, none⟩) n n) n (freeL n l)
  ins : wr.ownsRow w0.heap.size 3 1 (.slice ia m ic) m (I.map (Value.int .i64))
  far : qn ≠ fb ∧ qf ≠ fb
theorem Mk.mark {w0 wr : World} {q : NPl} {n qn qf fb : Nat} {ia : Option Addr} {m ic : Nat} {I : List Int} {j i : Nat} (h : Mk w0 q n qn qf fb ia m ic I (marked I j) wr) (hi : I[j]? = some (i : Int)) :
    Mk w0 q n qn qf fb ia m ic I (marked I (j + 1)) (wr.setCell ⟨fb, i, none⟩ (.bool true)) := by
  obtain ⟨f1, f2⟩ := h.far
  have hst := (h.free.stored i (.bool true)).1
  rw [freeL_mark n I hi] at hst
  have hge := own_ge h.free fb rfl
  refine ⟨h.below.setCell hge _, ?_, ?_, hst, ?_, h.far⟩
  · have := h.cn; simp [go_sem]; exact this
  · have := h.cf; simp [go_sem]; exact this
  · obtain ⟨c, hc⟩ := own_type h.free (k := fb) rfl
    have hk : Kept (fun k => k = fb) wr (wr.setCell ⟨fb, i, none⟩ (.bool true)) := ⟨rfl, rfl, rfl, by simp [World.setCell], fun k _ hn => Below.heap_setCell _ _ _ _ hn⟩
    refine own_keptF h.ins hk (fun k e hf => ?_)
    subst hf
    obtain ⟨c2, hc2⟩ := own_type h.ins e
    rw [hc] at hc2
    simp at hc2
theorem Mk.tk {w0 wr : World} {q : NPl} {n qn qf fb : Nat} {ia : Option Addr} {m ic : Nat} {I l l2 : List Int} (h : Mk w0 q n qn qf fb ia m ic I l wr) (hp : freeL n l = freeL n l2) :
    Tk w0 q n qn qf wr.heap.size fb l2 0 (wr.alloc (.cells #[.int .i64 0] 3)) := by
  have hb : Below wr.heap.size wr (wr.alloc (.cells #[.int .i64 0] 3)) := (Below.refl _ _).alloc (Nat.le_refl _) _
  have l1 := World.block_lt_of_cell? wr _ h.cn
  have l2' := World.block_lt_of_cell? wr _ h.cf
  have l3 := own_lt h.free
  simp only [] at l1 l2'
  refine ⟨nextw h.below hb, stepc hb l1 h.cn, stepc hb l2' h.cf, by simp [go_sem], by simp [go_sem], by rw [← hp]; exact own_below h.free hb, ⟨h.far.1, h.far.2, by omega, by omega, by omega⟩, h.below.size⟩
theorem made_free (n : Nat) : (madeCells (Value.bool false).cells (n * 1)).toList = freeL n [] := by
  rw [freeL_none, Nat.mul_one]
  exact toList_madeCells_one _ _
theorem info_boolO : (Tryz.prog.info? 4).map (fun i => (i.zero, i.size, i.bytes)) = some (some (.bool false), 1, 1) := by kernel_rfl
/-- What is still to be taken behind the first j buses; behind those and the first i literals of the next. -/
def leftB (N : Nt) (rest : List Int) (j : Nat) : List Int := litsOf (N.ins.drop j) ++ (N.regs.map (fun r => r.q) ++ rest)
def leftR (N : Nt) (rest : List Int) (j : Nat) : List Int := (N.regs.drop j).map (fun r => r.q) ++ rest
theorem leftB_zero (N : Nt) (rest : List Int) : leftB N rest 0 = takenN N ++ rest := by simp [leftB, takenN]
theorem leftB_next (N : Nt) (rest : List Int) {j : Nat} (hj : j < N.ins.length) : leftB N rest j = N.ins[j].lits ++ leftB N rest (j + 1) := by
  unfold leftB
  rw [List.drop_eq_getElem_cons hj, show litsOf (N.ins[j] :: N.ins.drop (j + 1)) = N.ins[j].lits ++ litsOf (N.ins.drop (j + 1)) from rfl, List.append_assoc]
theorem leftB_end (N : Nt) (rest : List Int) : leftB N rest N.ins.length = leftR N rest 0 := by simp [leftB, leftR, litsOf]
theorem leftR_next (N : Nt) (rest : List Int) {j : Nat} (hj : j < N.regs.length) : leftR N rest j = N.regs[j].q :: leftR N rest (j + 1) := by
  unfold leftR
  rw [List.drop_eq_getElem_cons hj, List.map_cons, List.cons_append]
theorem leftR_end (N : Nt) (rest : List Int) : leftR N rest N.regs.length = rest := by simp [leftR]
theorem leftB_left {N : Nt} {rest : List Int} (hg : Good N rest) : ∀ j, j ≤ N.ins.length → Left N.g (leftB N rest j) ∧ (leftB N rest j).length ≤ N.g.inputs.length := by
  intro j
  induction j with
  | zero =>
    intro _
    rw [leftB_zero]
    refine ⟨hg.left, ?_⟩
    have := hg.drv.length_eq
    unfold inLits at this
    rw [List.length_map] at this
    omega
  | succ j ih =>
    intro hj
    obtain ⟨h1, h2⟩ := ih (by omega)
    rw [leftB_next N rest (by omega)] at h1 h2
    refine ⟨h1.suffix, ?_⟩
    rw [List.length_append] at h2
    omega
theorem leftR_left {N : Nt} {rest : List Int} (hg : Good N rest) : ∀ j, j ≤ N.regs.length → Left N.g (leftR N rest j) ∧ (leftR N rest j).length ≤ N.g.inputs.length := by
  intro j
  induction j with
  | zero => intro _; rw [← leftB_end]; exact leftB_left hg _ (Nat.le_refl _)
  | succ j ih =>
    intro hj
    obtain ⟨h1, h2⟩ := ih (by omega)
    rw [leftR_next N rest (by omega)] at h1 h2
    refine ⟨h1.tail, ?_⟩
    rw [List.length_cons] at h2
    omega
/-- Behind the first k literals of bus j. -/
def leftD (N : Nt) (rest : List Int) (j k : Nat) : List Int := ((N.ins.getD j ⟨ByteArray.empty, []⟩).lits.drop k) ++ leftB N rest (j + 1)
theorem leftD_zero (N : Nt) (rest : List Int) {j : Nat} (hj : j < N.ins.length) : leftD N rest j 0 = leftB N rest j := by
  rw [leftB_next N rest hj]; simp [leftD, List.getD, hj]
theorem leftD_next (N : Nt) (rest : List Int) {j k : Nat} (hj : j < N.ins.length) (hk : k < N.ins[j].lits.length) : leftD N rest j k = N.ins[j].lits.getD k 0 :: leftD N rest j (k + 1) := by
  unfold leftD
  rw [show N.ins.getD j ⟨ByteArray.empty, []⟩ = N.ins[j] by simp [List.getD, hj], List.drop_eq_getElem_cons hk, List.cons_append]
  simp [List.getD, hk]
theorem leftD_end (N : Nt) (rest : List Int) {j : Nat} (hj : j < N.ins.length) : leftD N rest j N.ins[j].lits.length = leftB N rest (j + 1) := by
  unfold leftD
  rw [show N.ins.getD j ⟨ByteArray.empty, []⟩ = N.ins[j] by simp [List.getD, hj]]
  simp
theorem leftD_left {N : Nt} {rest : List Int} (hg : Good N rest) {j : Nat} (hj : j < N.ins.length) : ∀ k, k ≤ N.ins[j].lits.length → Left N.g (leftD N rest j k) ∧ (leftD N rest j k).length ≤ N.g.inputs.length := by
  intro k
  induction k with
  | zero => intro _; rw [leftD_zero N rest hj]; exact leftB_left hg j (by omega)
  | succ k ih =>
    intro hk
    obtain ⟨h1, h2⟩ := ih (by omega)
    rw [leftD_next N rest hj (by omega)] at h1 h2
    refine ⟨h1.tail, ?_⟩
    rw [List.length_cons] at h2
    omega
theorem leftB_full {N : Nt} {rest : List Int} (hg : Good N rest) : (leftB N rest 0).length = N.g.inputs.length := by
  rw [leftB_zero]
  have := hg.drv.length_eq
  unfold inLits at this
  rw [List.length_map] at this
  exact this
end Go.Proofs.YtlkainmkhofpaaaGreat
end
