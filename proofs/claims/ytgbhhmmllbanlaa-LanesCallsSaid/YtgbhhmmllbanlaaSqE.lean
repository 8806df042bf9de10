/-
  Two squares that hold the same are told to be the same.
-/
import Derived.Test.YtgbhhmmllbanlaaSqH
import Derived.ChangeKeysEq
namespace Go.Proofs.Ytgbhhmmllbanlaa
open Go.RowKit Go.ChangeMaps
set_option maxRecDepth 100000

theorem plain_u64 : Try.prog.plainKey 22 = true := by kernel_rfl
theorem cells_u64 : Try.prog.cellsOf 22 = 1 := by kernel_rfl
theorem und_u64 : Try.prog.underlying 22 = some (.int .u64) := by kernel_rfl
theorem infoU : ∃ i, Try.prog.info? 22 = some i := Option.isSome_iff_exists.1 (by kernel_rfl)

theorem sq_items (F : Nat → Nat) (d : Nat) (W : World) : ∀ is : List Nat, (∀ i ∈ is, i < 64) → (Op.eqItems (d + 1) 22 1 (sqA F) (sqA F) is).run Try.prog W = .ok true W
  | [], _ => by simp [Op.eqItems]
  | i :: is, h => by
    have hp : (part 22 (sqA F) (i * 1)).run Try.prog W = .ok (.int .u64 (F i : Nat)) W := run_part_plain W plain_u64 (by rw [Nat.mul_one]; exact sqA_get F i (h i (by simp)))
    simp only [Op.eqItems, Sem.run_bind, hp, Result.andThen_ok, run_equalIn_int W d 22 .u64 .u64 _ _ und_u64]
    simp [sq_items F d W is (fun j hj => h j (by simp [hj]))]
theorem sq_eql (F : Nat → Nat) (W : World) : (binOp .eql 23 (.agg (sqA F)) (.agg (sqA F))).run Try.prog W = .ok (.bool true) W := by
  obtain ⟨i, hi⟩ := infoU
  rw [run_eql_struct, run_equalIn_array W 9999 _ _ und_sq hi, cells_u64, sq_items F 9998 W _ (fun j hj => by simpa using hj)]
  rfl
/-- A whole square loaded, two squares compared, in a region that draws its order. -/
theorem cell_set_blk (wr : World) {b c o i : Nat} (v : Value) (h : b ≠ c) : (wr.setCell ⟨c, i, none⟩ v).cell? ⟨b, o, none⟩ = wr.cell? ⟨b, o, none⟩ := by simp [go_sem, h]
theorem guard_sq : Try.prog.eqGuardType Try.prog.depth 23 = false := by kernel_rfl
theorem quiet_sq {o : Oper} {a : Act} {K : Act → Prop} {W : World} {b : Nat} {f : Nat → Nat} (hb : Blk W b f) (x : Operand) (ho : o.op = .load 23 x) (hx : a.eval x = .pointer (some ⟨b, 0, none⟩)) (hk : K (a.put o.dst (.agg (sqA f)))) :
    o.quiet Try.prog a (fun w' => ∃ x, w' = ext W x) K :=
  ⟨_, fun w hw => by
    obtain ⟨q, rfl⟩ := hw
    unfold Oper.quietAt execOp
    simp only [ho, hx, Sem.run_bind, (hb.step (ext_below W q)).loads, Result.andThen_ok, Sem.run_pure]
    exact ⟨rfl, rfl⟩, hk⟩
theorem quiet_sq_eql {o : Oper} {a : Act} {K : Act → Prop} {C : World → Prop} {f : Nat → Nat} (x y : Operand) (T : TypeId) (ho : o.op = .binOp .eql 23 x y T) (hx : a.eval x = .agg (sqA f)) (hy : a.eval y = .agg (sqA f)) (hk : K (a.put o.dst (.bool true))) :
    o.quiet Try.prog a C K :=
  ⟨_, fun w _ => by
    unfold Oper.quietAt execOp
    simp only [ho, hx, hy, Sem.run_bind, run_eqGuard_agg w .eql 23 x y _ _ guard_sq, Result.andThen_ok, sq_eql, Sem.run_pure]
    exact ⟨rfl, rfl⟩, hk⟩
end Go.Proofs.Ytgbhhmmllbanlaa
