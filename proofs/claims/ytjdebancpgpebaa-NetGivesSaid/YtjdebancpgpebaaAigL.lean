/-
  Gate, Inputs; the law package's own 'brought'.
-/
import Derived.Test.YtjdebancpgpebaaAigK
import Derived.Deep.CutBlock
import Derived.Deep.DeepCutAuto
import Derived.Lib.SliceRun
namespace Go.Proofs.Ytjdebancpgpebaa
open Go.RowKit Go.Maps
set_option maxRecDepth 100000

theorem Inputs_any {w : World} {p : Pl} {G : Gr} (hG : Is w p G) (hW : Wf G) (hm : G.nodes.length ≤ 200000) :
    Calls Try.prog 14 #[.pointer (some ⟨p.b, 0, none⟩)] w fun e w' => ∃ (a : Option Addr) (cap : Nat), e = .returned (.slice a G.inputs.length cap) ∧ Below w.heap.size w w' := by
  have hst := Lib.hid (stands_any hG.lay hW.pos)
  have hcn := hW.cnt
  obtain ⟨-, -, -, c3, -, -⟩ := hG.lay.cells
  obtain ⟨ia, ic, hiv⟩ := own_slice hG.lay.inputs
  rw [hiv] at c3
  have hio := hG.lay.inputs
  rw [hiv] at hio
  have hil : G.inputs.length ≤ 200000 := by omega
  have hcl : Hid (∀ w2, w2 = w → Calls Try.prog 45 #[.slice ia G.inputs.length ic] w2 fun e w' => ∃ (a : Option Addr) (cap : Nat), e = .returned (.slice a G.inputs.length cap) ∧ Below w.heap.size w w') := by
    show ∀ w2, _
    rintro w2 rfl
    obtain ⟨i0, hi, hz0, hz1, hz2⟩ := info_parts info_int
    have hlen : (G.inputs.map (Value.int .i64)).length = G.inputs.length := by simp
    have hone : ∀ u ∈ G.inputs.map (Value.int .i64), u.oneCell' = true := by
      intro u hu
      obtain ⟨z, -, rfl⟩ := List.mem_map.1 hu
      rfl
    clear hst hcn hiv c3 hG hW
    generalize G.inputs.map (Value.int .i64) = xs at *
    generalize G.inputs.length = m at *
    rcases hio.2 with ⟨h0, h1⟩ | ⟨g, cap', cur, hv, -, -⟩
    · simp at h0
      obtain ⟨rfl, rfl, rfl⟩ := h0
      clear hio hlen hone h1
      have heq : ∀ W, (binOp .eql 54 (.slice none 0 0) (.slice none 0 0)).run Try.prog W = .ok (.bool true) W := fun W => Lib.run_eql_slice_nil W _ _ _ _ _ _ _ Try.underlying54
      go_enter Try.func45, Try.ntmps45
      go_wp2
      go_ret
      exact ⟨none, 0, rfl, Below.refl _ _⟩
    · simp at hv
      obtain ⟨rfl, rfl⟩ := hv
      have hlt := own_lt hio
      have hcells := hio.cells (g := g) rfl
      have HO := Lib.hid (fun j u (h : xs[j]? = some u) => hcells j u h)
      have HL := Lib.hid hlen
      have H1 := Lib.hid hone
      have hemp : Hid ((w2.alloc (.cells #[] 3)).ownsRow w2.heap.size 3 1 (.slice (some ⟨w2.heap.size, 0, none⟩) 0 0) 0 []) := Lib.hid ⟨rfl, .inr ⟨w2.heap.size, 0, #[], rfl, Nat.le_refl _, Deep.blk_alloc_new _ _, Nat.le_refl _, by decide, rfl, rfl⟩⟩
      have hb0 : Hid (Below w2.heap.size w2 (w2.alloc (.cells #[] 3))) := Lib.hid ((Below.refl _ _).alloc (Nat.le_refl _) _)
      have hadd : ∀ j, (⟨g, 0, none⟩ : Addr).add j = ⟨g, j, none⟩ := fun j => by simp [Addr.add]; omega
      have HN := Lib.hid (fun j u (h : xs[j]? = some u) => (hb0.out.cell (p := (⟨g, 0, none⟩ : Addr).add j) (by rw [hadd]; exact hlt)).trans (HO.out j u h))
      clear hio hcells hlen hone hadd
      have heq : ∀ W, (binOp .eql 54 (.slice (some ⟨g, 0, none⟩) m ic) (.slice none 0 0)).run Try.prog W = .ok (.bool false) W := fun W => Lib.run_eql_slice_nil W _ _ _ _ _ _ _ Try.underlying54
      go_enter Try.func45, Try.ntmps45
      go_wp2_with (at_builtin; refine wpList_append_own_at _ rfl _ _ 54 rfl w2.heap.size 3 i0 (.int .i64 0) 1 8 Try.underlying54 hi hz0 hz1 hz2 rfl (by decide) (.slice (some ⟨w2.heap.size, 0, none⟩) 0 0) 0 [] rfl hemp.out ⟨g, 0, none⟩ m ic xs rfl (by rw [HL.out]; omega) HN.out H1.out (by unfold maxLen; omega) (by omega) (by simp) ?_; intro v' w3 hown' hgrow hnil hloc)
      obtain ⟨a3, c3, rfl⟩ := own_slice hown'
      go_wp2
      go_ret
      refine ⟨a3, c3, by simp, ?_⟩
      exact hb0.out.grown hgrow (by simp) (fun k hk => by simp [Value.ownBlock] at hk; omega)
  clear hG hW hcn hio hiv
  generalize G.inputs.length = m at *
  go_enter Try.func14, Try.ntmps14
  go_wp2_with (first
    | (go_at_call 44; refine hst.out.mono ?_; rintro e w2 ⟨rfl, rfl⟩)
    | (go_at_call 45; refine (hcl.out _ rfl).mono ?_; rintro e w2 ⟨a2, cap2, rfl, hB⟩))
  go_ret
  exact ⟨a2, cap2, rfl, hB⟩
end Go.Proofs.Ytjdebancpgpebaa
