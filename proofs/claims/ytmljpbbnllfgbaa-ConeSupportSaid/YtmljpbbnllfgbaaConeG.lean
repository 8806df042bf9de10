/-
  Copy: the function that it hands to through.
-/
import Derived.Test.YtmljpbbnllfgbaaConeF
import Derived.Deep.RegionHeld3
namespace Go.Proofs.Ytmljpbbnllfgbaa
open Go.RowKit Go.Maps Num
set_option maxRecDepth 100000

theorem CpS.cells {w0 wr : World} {p0 p : Pl} {T : Gr} {g qs qt qc N : Nat} {S : List Int} (h : CpS w0 wr p0 p T g qs qt qc N S) :
    wr.cell? ⟨qs, 0, none⟩ = some (.slice (some ⟨g, 0, none⟩) N N) ∧ wr.cell? ⟨qt, 0, none⟩ = some (.pointer (some ⟨p0.b, 0, none⟩)) ∧ wr.cell? ⟨qc, 0, none⟩ = some (.func (.func 42) #[] #[.pointer (some ⟨qs, 0, none⟩)]) := by
  refine ⟨?_, ?_, ?_⟩
  · simp [World.cell?, h.bs]
  · simp [World.cell?, h.bt]
  · simp [World.cell?, h.bc]
theorem CpS.gcell {w0 wr : World} {p0 p : Pl} {T : Gr} {g qs qt qc N : Nat} {S : List Int} (h : CpS w0 wr p0 p T g qs qt qc N S) {i : Nat} (hi : i < N) : wr.cell? ⟨g, i, none⟩ = some (.int .u32 (S.getD i 0)) ∧ wr.frozen? ⟨g, i, none⟩ = false := by
  have := h.at i hi
  rw [Nat.zero_add] at this
  exact ⟨this, h.row.frozenAt i⟩

theorem CpS.sameB_set {w0 wr : World} {p0 p : Pl} {T : Gr} {g qs qt qc N : Nat} {S : List Int} (h : CpS w0 wr p0 p T g qs qt qc N S) (i : Nat) (v : Value) : SameB wr (wr.setCell ⟨g, i, none⟩ v) := by
  obtain ⟨-, -, -, -, -, -, -, -, cur, hc⟩ := h.glo
  exact SameB.kept (kept_set0 wr g i v) (fun k hk cur2 h2 => by subst hk; rw [hc] at h2; simp at h2)
set_option maxHeartbeats 2000000 in
theorem copy2_any {w0 wr : World} {p0 p : Pl} {T : Gr} {g qs qt qc N : Nat} {S : List Int} (h : CpS w0 wr p0 p T g qs qt qc N S) (h9 : T.nodes.length < 90000) {i : Nat} {a b : Int} (ha : IsLit a) (hb : IsLit b) (hi : i < N) (hN : N ≤ 200000) (hai : nodeN a < N) (hbi : nodeN b < N) :
    Calls Try.prog 46 #[.int .i64 i, .int .u32 a, .int .u32 b, .bool true, .pointer (some ⟨qt, 0, none⟩), .pointer (some ⟨qc, 0, none⟩), .pointer (some ⟨qs, 0, none⟩)] wr fun e w' => e = .returned (.int .i64 0) ∧ (∃ p', CpS w0 w' p0 p' (andG T (overV S a) (overV S b)).1 g qs qt qc N (S.set i (andG T (overV S a) (overV S b)).2)) ∧ SameB wr w' := by
  have hx := over_there h.lits a
  have hy := over_there h.lits b
  have hsa := Lib.hid (fun wk (hk : CpS w0 wk p0 p T g qs qt qc N S) => hk.stand ha hai)
  have hsb := Lib.hid (fun wk (hk : CpS w0 wk p0 p T g qs qt qc N S) => hk.stand hb hbi)
  have hand := Lib.hid (fun wk (hk : CpS w0 wk p0 p T g qs qt qc N S) => hk.and hx hy h9)
  have hth := Lib.hid (and_ok T _ _ h.wf hx hy (by omega)).there
  obtain ⟨-, -, -, -, -, n1, n2, n3, -⟩ := h.glo
  have hbn : Below wr.heap.size wr wr.drew := (Below.refl _ _).drew
  have I := Lib.hid (h.below hbn)
  have hSB := Lib.hid (SameB.below hbn)
  have hSS := Lib.hid (fun (wk wk2 : World) (hk : SameB wr wk) (hb : Below wk.heap.size wk wk2) => hk.trans (SameB.below hb))
  have hiN : (i : Int) < N := by omega
  generalize overV S a = X at *
  generalize overV S b = Y at *
  obtain ⟨c0, c1, c2⟩ := h.cells
  clear hx hy hbn h ha hb hai hbi
  generalize hR : andG T X Y = R at *
  clear hR
  go_enter Try.func46, Try.ntmps46
  go_upto_region 2 with fail
  go_region_held3 (fun w' => w'.cell? ⟨qs, 0, none⟩ = some (.slice (some ⟨g, 0, none⟩) N N) ∧ w'.cell? ⟨qt, 0, none⟩ = some (.pointer (some ⟨p0.b, 0, none⟩)) ∧ w'.cell? ⟨qc, 0, none⟩ = some (.func (.func 42) #[] #[.pointer (some ⟨qs, 0, none⟩)])) (go_keep)
    (first
      | (go_at_call 42; (with_reducible refine (hsa.out _ I.out).mono ?_); rintro e w4 ⟨rfl, hb⟩; have I2 := Lib.hid (I.out.below hb); have hSB2 := Lib.hid (hSS.out _ _ hSB.out hb); clear I hSB hb; have I := I2; have hSB := hSB2; clear I2 hSB2; obtain ⟨q0, q1, q2⟩ := I.out.cells)
      | (go_at_call 42; (with_reducible refine (hsb.out _ I.out).mono ?_); rintro e w4 ⟨rfl, hb⟩; have I2 := Lib.hid (I.out.below hb); have hSB2 := Lib.hid (hSS.out _ _ hSB.out hb); clear I hSB hb; have I := I2; have hSB := hSB2; clear I2 hSB2; obtain ⟨q0, q1, q2⟩ := I.out.cells)
      | (go_at_call 36; (with_reducible refine (hand.out _ I.out).mono ?_); rintro e w5 ⟨rfl, ⟨p5, hC5⟩, hS5⟩; have hSB5 := Lib.hid (hSB.out.trans hS5); have I5 := Lib.hid hC5; clear I hSB hC5 hS5; obtain ⟨q0, q1, q2⟩ := I5.out.cells; obtain ⟨gc, gf⟩ := I5.out.gcell hi))
  all_goals
    have I6 := Lib.hid (I5.out.set i hth.out)
    have hSB6 := Lib.hid (hSB5.out.trans (I5.out.sameB_set i (.int .u32 R.2)))
    go_wp2
    go_ret
    exact ⟨rfl, ⟨p5, I6.out⟩, hSB6.out⟩

theorem copy20_any (wr : World) (i : Nat) (a b : Int) (x y z : Value) :
    Calls Try.prog 46 #[.int .i64 i, .int .u32 a, .int .u32 b, .bool false, x, y, z] wr fun e w' => e = .returned (.int .i64 0) ∧ wr = w' := by
  go_enter Try.func46, Try.ntmps46
  go_wp2
  go_ret
  exact ⟨rfl, rfl⟩
end Go.Proofs.Ytmljpbbnllfgbaa
