/-
  Two graphs, two netlists that hold the same are told to be the same.
-/
import Derived.Test.YtjdebancpgpebaaNetS
namespace Go.Proofs.Ytjdebancpgpebaa
open Go.RowKit Go.Maps Bits Go.ChangeMaps
set_option maxRecDepth 100000

theorem opt_eqIn (F H : Bool) (W : World) : (Op.equalIn 10000 23 (.agg #[.bool F, .bool H]) (.agg #[.bool F, .bool H])).run Try.prog W = .ok true W := by
  rw [run_equalIn_agg W 9999 _ _ _ (by kernel_rfl) (by kernel_rfl)]
  have p0 := part_bool #[.bool F, .bool H] W (i := 0) (v := .bool F) rfl
  have p1 := part_bool #[.bool F, .bool H] W (i := 1) (v := .bool H) rfl
  have e0 := run_equalIn_bool' (P := Try.prog) W 9998 4 F F Try.underlying4
  have e1 := run_equalIn_bool' (P := Try.prog) W 9998 4 H H Try.underlying4
  generalize hX : #[Value.bool F, .bool H] = X at *
  clear hX
  simp only [Program.fieldsOf, Try.underlying23]
  simp [Op.eqFields, p0, p1, e0, e1]
set_option maxHeartbeats 2000000 in
theorem gSame_any {w : World} {p p2 : Pl} {G : Gr} (h1 : Is w p G) (h2 : Is w p2 G) (h0 : 0 < G.nodes.length) :
    Calls Try.prog 34 #[.pointer (some ⟨p.b, 0, none⟩), .pointer (some ⟨p2.b, 0, none⟩)] w fun e w' => e = .returned (.bool true) ∧ Below w.heap.size w w' := by
  have hs1 := Lib.hid (stands_any h1.lay h0)
  have hs2 := Lib.hid (stands_any h2.lay h0)
  obtain ⟨a0, a1, a2, -, -, -⟩ := h1.lay.cells
  obtain ⟨b0, b1, b2, -, -, -⟩ := h2.lay.cells
  have hl1 := h1.lay.lt
  have hl2 := h2.lay.lt
  have x0 := fun q => stepc (ext_below w q) hl1 a0
  have x1 := fun q => stepc (ext_below w q) hl1 a1
  have x2 := fun q => stepc (ext_below w q) hl1 a2
  have y0 := fun q => stepc (ext_below w q) hl2 b0
  have y1 := fun q => stepc (ext_below w q) hl2 b1
  have y2 := fun q => stepc (ext_below w q) hl2 b2
  have he := Lib.hid (fun q => eq_node (own_below h1.lay.nodes (ext_below w q)) (own_below h2.lay.nodes (ext_below w q)) rfl)
  have hxx := fun W => opt_eqIn G.fold G.hash W
  clear h1 h2 h0
  unfold Pl.nv at he
  generalize G.nodes.length = n at *
  generalize G.fold = F at *
  generalize G.hash = H at *
  go_enter Try.func34, Try.ntmps34
  go_wp2_with (first
    | (go_at_call 44; (with_reducible refine hs1.out.mono ?_); rintro e w2 ⟨rfl, rfl⟩)
    | (go_at_call 44; (with_reducible refine hs2.out.mono ?_); rintro e w2 ⟨rfl, rfl⟩))
  (refine wp_region_ext (by kernel_rfl) (by kernel_rfl) ?_; (repeat (go_big_quiet_step ((go_at_call 58; exact Calls.ext_of (he.out _))))); refine wpQuiet_nil ?_; intro w2 hw'; have hb2 := below_of_ext hw'; clear hw')
  go_wp2
  go_ret
  exact ⟨rfl, hb2⟩
set_option maxHeartbeats 2000000 in
theorem nSame_any {w : World} {q q2 : NPl} {N : Nt} (h1 : NetIs w q N) (h2 : NetIs w q2 N) (h0 : 0 < N.g.nodes.length) :
    Calls Try.prog 8 #[.pointer (some ⟨q.b, 0, none⟩), .pointer (some ⟨q2.b, 0, none⟩)] w fun e w' => e = .returned (.bool true) ∧ Below w.heap.size w w' := by
  have hs1 := Lib.hid (nstands_any h1 h0)
  have hs2 := Lib.hid (nstands_any h2 h0)
  obtain ⟨ia, ic, ra, rc, oa, oc, u1, u2, u3, a0, a1, a2, a3, a4, -⟩ := h1.cells
  obtain ⟨ja, jc, sa, sc, ta, tc, v1, v2, v3, b0, b1, b2, b3, b4, -⟩ := h2.cells
  have hl1 := h1.lt
  have hl2 := h2.lt
  have x0 := fun q => stepc (ext_below w q) hl1 a0
  have x1 := fun q => stepc (ext_below w q) hl1 a1
  have x2 := fun q => stepc (ext_below w q) hl1 a2
  have x3 := fun q => stepc (ext_below w q) hl1 a3
  have x4 := fun q => stepc (ext_below w q) hl1 a4
  have y0 := fun q => stepc (ext_below w q) hl2 b0
  have y1 := fun q => stepc (ext_below w q) hl2 b1
  have y2 := fun q => stepc (ext_below w q) hl2 b2
  have y3 := fun q => stepc (ext_below w q) hl2 b3
  have y4 := fun q => stepc (ext_below w q) hl2 b4
  have hg := Lib.hid (fun x => gSame_any (h1.g.below (ext_below w x)) (h2.g.below (ext_below w x)) h0)
  have hI := Lib.hid (fun x => eqFunc_any (by have := h1.ins.below (ext_below w x); rw [u1] at this; exact this) (by have := h2.ins.below (ext_below w x); rw [v1] at this; exact this) rfl)
  have hO := Lib.hid (fun x => eqFunc_any (by have := h1.outs.below (ext_below w x); rw [u3] at this; exact this) (by have := h2.outs.below (ext_below w x); rw [v3] at this; exact this) rfl)
  have hR := Lib.hid (fun x => eq_reg (by have := own_below h1.regs (ext_below w x); rw [u2] at this; exact this) (by have := own_below h2.regs (ext_below w x); rw [v2] at this; exact this) rfl)
  have hss : (N.name.toList == N.name.toList) = true := by simp
  clear h1 h2 h0 u1 u2 u3 v1 v2 v3
  generalize N.ins.length = ni at *
  generalize N.regs.length = nr at *
  generalize N.outs.length = no at *
  generalize N.name = nm at *
  go_enter Try.func8, Try.ntmps8
  go_wp2_with (first
    | (go_at_call 22; (with_reducible refine hs1.out.mono ?_); rintro e w2 ⟨rfl, rfl⟩)
    | (go_at_call 22; (with_reducible refine hs2.out.mono ?_); rintro e w2 ⟨rfl, rfl⟩))
  (refine wp_region_ext (by kernel_rfl) (by kernel_rfl) ?_; (repeat (go_big_quiet_step ((first
      | (go_at_call 34; exact Calls.ext_of (hg.out _))
      | (go_at_call 37; exact Calls.ext_of (hR.out _))
      | (go_at_call 35; (with_reducible exact Calls.ext_of (hI.out _)))
      | (go_at_call 35; (with_reducible exact Calls.ext_of (hO.out _))))))); refine wpQuiet_nil ?_; intro w2 hw'; have hb2 := below_of_ext hw'; clear hw')
  go_wp2
  go_ret
  exact ⟨rfl, hb2⟩
end Go.Proofs.Ytjdebancpgpebaa
