/-
  A square whose halves change places.
-/
import Derived.Test.YtnhpjacodhdpeaaDoorSqM
import Derived.StillTailTactics
import Derived.Deep.Heap
namespace Go.Proofs.YtnhpjacodhdpeaaDoor
open Go.RowKit

theorem info_sq : (Tryd.prog.info? 163).map (fun i => (i.zero, i.size)) = some (some (.agg (sqA (fun _ => 0))), 64) := by kernel_rfl
theorem und_sq : Tryd.prog.underlying 163 = some (.array 64 46) := by kernel_rfl

/-- A whole square out of its block, and into it. -/
theorem Blk.loads {w : World} {b : Nat} {f : Nat → Nat} (h : Blk w b f) : (Instr.loadAt 163 (.pointer (some ⟨b, 0, none⟩))).run Tryd.prog w = .ok (.agg (sqA f)) w := by
  simp only [Instr.loadAt, Instr.sureAddr, Sem.run_bind, Sem.run_pure, Result.andThen]
  exact run_loadVar_row w b _ _ _ _ _ h und_sq rfl (by rw [(zero_of_info info_sq).2, sqA_size])
theorem Blk.put {w : World} {b : Nat} {f : Nat → Nat} (h : Blk w b f) (g : Nat → Nat) : Blk (w.setRow b (sqA g)) b g := by
  unfold Blk; rw [setRow_heap w b _ _ _ _ h]
theorem Blk.stores {w : World} {b : Nat} {f : Nat → Nat} (h : Blk w b f) (g : Nat → Nat) : (Instr.storeAt 163 (.pointer (some ⟨b, 0, none⟩)) (.agg (sqA g))).run Tryd.prog w = .ok () (w.setRow b (sqA g)) := by
  simp only [Instr.storeAt, Instr.sureAddr, Sem.run_bind, Sem.run_pure, Result.andThen]
  exact run_storeVar_row w b _ _ _ _ h (by rw [(zero_of_info info_sq).2, sqA_size]) (by rw [sqA_size, sqA_size]) (sqA_one g)

/-- As a walk meets them. -/
theorem Blk.wload {w : World} {b : Nat} {f : Nat → Nat} (h : Blk w b f) {ops : Array Oper} {rest : List Oper} {o : Oper} {a : Act} {Q : Exit → Act → World → Prop} (hgd : o.guard = none) (x : Operand) (ho : o.op = .load 163 x)
    (hx : a.eval x = .pointer (some ⟨b, 0, none⟩)) (hn : wpList Tryd.prog ops Q rest (a.put o.dst (.agg (sqA f))) w) : wpList Tryd.prog ops Q (o :: rest) a w :=
  wpList_load_row hgd _ x ho b hx _ _ _ _ h und_sq rfl (by rw [(zero_of_info info_sq).2, sqA_size]) hn
theorem Blk.wstore {w : World} {b : Nat} {f : Nat → Nat} (h : Blk w b f) {g : Nat → Nat} {ops : Array Oper} {rest : List Oper} {o : Oper} {a : Act} {Q : Exit → Act → World → Prop} (hgd : o.guard = none) (x y : Operand) (ho : o.op = .store 163 x y)
    (hx : a.eval x = .pointer (some ⟨b, 0, none⟩)) (hy : a.eval y = .agg (sqA g)) (hn : wpList Tryd.prog ops Q rest (a.put o.dst undef) (w.setRow b (sqA g))) : wpList Tryd.prog ops Q (o :: rest) a w :=
  wpList_store_row hgd _ x y ho b _ hx hy _ _ h (by rw [(zero_of_info info_sq).2, sqA_size]) (by rw [sqA_size, sqA_size]) (sqA_one g) hn
theorem Blk.results {w : World} {b : Nat} {f : Nat → Nat} (h : Blk w b f) {fn : Func} {p : Tmp} (hr : fn.results = #[.cell p 163]) (tmps : Array Value) (hp : tmps.getD p undef = .pointer (some ⟨b, 0, none⟩)) :
    (results fn tmps).run Tryd.prog w = .ok (.agg (sqA f)) w :=
  results_cell_row hr tmps w b _ _ _ _ hp h und_sq rfl (by rw [(zero_of_info info_sq).2, sqA_size])
theorem below_setRow {w : World} {N b : Nat} (h : N ≤ b) (cs : Array Value) : Below N w (w.setRow b cs) := ⟨rfl, rfl, rfl, by simp, fun k hk => setRow_other w b k cs (by omega)⟩
theorem Blk.putOther {w : World} {b c : Nat} {f : Nat → Nat} (h : Blk w b f) (hne : b ≠ c) (g : Nat → Nat) : Blk (w.setRow c (sqA g)) b f := by
  unfold Blk; rw [setRow_other w c b _ hne]; exact h

set_option maxRecDepth 100000 in
set_option maxHeartbeats 1000000 in
theorem half_any (f : Nat → Nat) (half near : Nat) (hf : ∀ i, f i < 18446744073709551616) (hh : Half half) (hn : near < 18446744073709551616) (w : World) :
    Calls Tryd.prog 136 #[.agg (sqA f), .int .i64 half, .int .u64 near] w fun e w' => e = .returned (.agg (sqA (halvesN f half near))) ∧ Below w.heap.size w w' := by
  obtain ⟨hz, hs⟩ := zero_of_info info_sq
  have hin := Lib.hid (half_in hh)
  have hdo := Lib.hid (fun (n : Nat) (h1 : n < 64) (h2 : n &&& half = 0) => halves_do (f := f) (near := near) hh h1 h2)
  have hskip := Lib.hid (fun (n : Nat) (h1 : n < 64) (h2 : ¬ n &&& half = 0) => halves_skip (f := f) (near := near) hh h1 h2)
  have hthere := Lib.hid (fun (n : Nat) (h1 : n < 64) (h2 : n &&& half = 0) => halves_there (f := f) (near := near) hh h1 h2)
  have hall := Lib.hid (halves_all (f := f) (near := near) hh)
  have hF := Lib.hid hf
  have hN := Lib.hid hn
  obtain ⟨hp1, hp2⟩ := half_pos hh
  clear hf hn hh
  go_enter Tryd.func136, Tryd.ntmps136
  go_wp2
  go_loopw [10] (fun i wr => ∃ j : Nat, j ≤ 64 ∧ i = .int .i64 j ∧ Hid (Blk wr w.heap.size (halves f half near j)) ∧ Hid (Blk wr (w.heap.size + 1) (fun _ => 0)) ∧ Hid (Below w.heap.size w wr)) (fun i _ => 64 - (intOf i).toNat)
  case atStart => exact ⟨0, by omega, rfl, Lib.hid (by rw [halves_zero]; exact (Blk.new w f).old _), Lib.hid (by have h := Blk.new (w.alloc (.cells (sqA f) 163)) (fun _ => 0); simpa using h), Lib.hid (((Below.refl _ _).alloc (Nat.le_refl _) _).alloc (by simp) _)⟩
  case round =>
    obtain ⟨j, hj, rfl, hb, ho, hB⟩ := hrel
    by_cases hlt : j < 64
    · have hand : bits .and .i64 (j : Int) (half : Int) = ((j &&& half : Nat) : Int) := andI64n (by omega) (by omega)
      have hj64 : (j : Int) < 64 := by omega
      by_cases h0 : j &&& half = 0
      · have hsum := (hin.out j hlt h0).1
        have hsum2 : (j : Int) + half < 64 := by omega
        have cx := hb.out.cell hlt
        have cy := hb.out.cell hsum
        have fx := hb.out.thaw j
        have fy := hb.out.thaw (j + half)
        have hlt1 := hb.out.lt
        rw [halves_here h0] at cx
        rw [hthere.out j hlt h0] at cy
        have hnx := hdo.out j hlt h0
        rw [h0] at hand
        have hnx := Lib.hid hnx
        have hdf : Hid (differ f half near j = ((f j / 2 ^ half) ^^^ f (j + half)) &&& near) := Lib.hid rfl
        have hxb := Lib.hid (hF.out j)
        have hyb := Lib.hid (hF.out (j + half))
        have hdn := Lib.hid (differ_lt (f := f) (half := half) (i := j) hN.out)
        clear hin hdo hskip hthere hall hF
        generalize differ f half near j = d at *
        generalize f (j + half) = y at *
        generalize f j = x at *
        have hwx := Lib.hid (differ_walk (half := half) hxb.out hyb.out hN.out)
        go_wp2
        go_quiet (fail)
        rw [hwx.out, ← hdf.out]
        have hb2 : Hid (Blk (wr.drewN nq) w.heap.size (halves f half near j)) := Lib.hid (hb.out.drewN nq)
        have ho2 : Hid (Blk (wr.drewN nq) (w.heap.size + 1) (fun _ => 0)) := Lib.hid (ho.out.drewN nq)
        have hB2 : Hid (Below w.heap.size w (wr.drewN nq)) := Lib.hid (nextw hB.out (below_drewN wr nq))
        have cx : (wr.drewN nq).cell? ⟨w.heap.size, j, none⟩ = some (.int .u64 (x : Nat)) := by simpa using cx
        have cy : (wr.drewN nq).cell? ⟨w.heap.size, j + half, none⟩ = some (.int .u64 (y : Nat)) := by simpa using cy
        have fx : (wr.drewN nq).frozen? ⟨w.heap.size, j, none⟩ = false := hb2.out.thaw j
        have fy : (wr.drewN nq).frozen? ⟨w.heap.size, j + half, none⟩ = false := hb2.out.thaw _
        clear hb ho hB
        generalize wr.drewN nq = w2 at *
        have hny : Hid (bits .xor .u64 (x : Int) (IntKind.u64.wrap ((d : Int) * 2 ^ half)) = ((x ^^^ (d * 2 ^ half % 18446744073709551616) : Nat) : Int)) := Lib.hid (near_walk hxb.out)
        go_wp2
        go_still_tail 8, (by kernel_rfl)
        change wpList _ _ _ _ _ w2.drew
        rw [hny.out]
        go_wp2
        have hyd := Lib.hid (xor64n (a := y) (b := d) hyb.out hdn.out)
        rw [hyd.out]
        refine ⟨⟨j + 1, by omega, by go_num, Lib.hid ?_, Lib.hid ?_, Lib.hid ?_⟩, by simp [intOf]; omega⟩
        · have h := ((hb2.out.set hlt (v := x ^^^ (d * 2 ^ half % 18446744073709551616))).set hsum (v := y ^^^ d)).drew
          unfold Blk at h ⊢
          rw [hnx.out]; exact h
        · exact ((ho2.out.other (by simp) _).other (by simp) _).drew
        · exact ((hB2.out.setCell (Nat.le_refl _) _).setCell (Nat.le_refl _) _).drew
      · have hsk := Lib.hid (hskip.out j hlt h0)
        have hand0 : Hid (¬ ((j &&& half : Nat) : Int) = 0) := Lib.hid (by omega)
        clear hin hdo hskip hthere hall hF
        generalize j &&& half = m at *
        have hm := hand0.out
        go_wp2
        refine ⟨⟨j + 1, by omega, by go_num, Lib.hid ?_, ho, hB⟩, by simp [intOf]; omega⟩
        have h := hb.out
        unfold Blk at h ⊢
        rw [hsk.out]; exact h
    · obtain rfl : j = 64 := by omega
      clear hin hdo hskip hthere hF
      clear hz hs
      go_wp2_with (first | (refine hb.out.wload rfl _ rfl rfl ?_) | (refine ho.out.wstore rfl _ _ rfl rfl rfl ?_))
      refine bodyPost_ret (v := .agg (sqA (halves f half near 64))) ((ho.out.put _).results rfl _ rfl) rfl ⟨by rw [hall.out], hB.out.trans (below_setRow (by omega) _)⟩
end Go.Proofs.YtnhpjacodhdpeaaDoor
