/-
  Eval: the walk.
-/
import Derived.Test.YtjdebancpgpebaaAigJ
import Derived.Test.YtjdebancpgpebaaAigP
namespace Go.Proofs.Ytjdebancpgpebaa
open Go.RowKit Go.Maps

theorem made_zero (kd : IntKind) (n : Nat) : (madeCells (Value.int kd 0).cells (n * 1)).toList = (List.replicate n (0 : Int)).map (Value.int kd) := by
  rw [fillK_zero kd (fun _ => 0) n]
  congr 1
  apply List.ext_getElem
  · simp [fillF, Bits.row]
  · intro i h1 h2; simp [fillF, Bits.row]

theorem node_cells {w : World} {p : Pl} {G : Gr} (hL : Lay w p G.fold G.hash G.nodes G.inputs) {j : Nat} (hj : j < G.nodes.length) :
    w.cell? ⟨p.nb, j * 3, none⟩ = some (.bool (nodeAt G j).gate) ∧ w.cell? ⟨p.nb, j * 3 + 1, none⟩ = some (.int .u32 (nodeAt G j).a) ∧ w.cell? ⟨p.nb, j * 3 + 2, none⟩ = some (.int .u32 (nodeAt G j).b) := by
  have hn : G.nodes[j]? = some (nodeAt G j) := by simp [nodeAt, List.getD, hj]
  obtain ⟨e0, e1, e2⟩ := nodeCells_at _ _ _ hn
  have ho : w.ownsRow 0 98 3 (.slice (some ⟨p.nb, 0, none⟩) G.nodes.length p.nc) G.nodes.length (nodeCells G.nodes) := hL.nodes
  rw [ho.cellAt _ (by omega), ho.cellAt _ (by omega), ho.cellAt _ (by omega), Nat.mul_comm j 3]
  exact ⟨e0, e1, e2⟩

theorem tri_box (w : World) (x y z : Value) (T : Nat) : (w.alloc (.cells #[x, y, z] T)).cell? ⟨w.heap.size, 1, none⟩ = some y ∧ (w.alloc (.cells #[x, y, z] T)).cell? ⟨w.heap.size, 2, none⟩ = some z := ⟨by simp [go_sem], by simp [go_sem]⟩

end Go.Proofs.Ytjdebancpgpebaa
