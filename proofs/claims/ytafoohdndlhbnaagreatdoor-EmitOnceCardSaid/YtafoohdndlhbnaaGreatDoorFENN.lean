/-
  Package emit: Size.
  Package emit: All.
  Package emit: All and Size of a well formed netlist of moderate size, in terms of its text.
-/
import Derived.Test.YtafoohdndlhbnaaGreatDoorFENM
import Derived.Test.YtafoohdndlhbnaaGreatDoorFENJ
import Derived.RangeFuncBox
import Derived.Lib.AppendStr
import Derived.Test.YtafoohdndlhbnaaGreatDoorFENK
section
namespace Go.Proofs.YtafoohdndlhbnaaGreatDoor
open Go.RowKit Go.Maps Bits Go.Shelf
attribute [local go_sem] Oper.semAt_some
set_option maxRecDepth 100000
set_option linter.unusedVariables false

theorem kpN_t {n₀ Bn : Nat} {A B C : World} (h : KpN n₀ Bn A B) (k : KpN n₀ Bn B C) : KpN n₀ Bn A C := ⟨h.1.trans k.1, fun v hv => k.2 v (h.2 v hv)⟩
theorem kpN_b {n₀ Bn : Nat} {w : World} (hn : n₀ ≤ w.heap.size) (W : World) (l : Nat) (o o' : Obj) (hl : w.heap.size ≤ l) (h : W.heap[l]? = some o) (h1 : o.isCells = false) (h2 : o.isWalk = false) : KpN n₀ Bn W (W.putObj l o') :=
  ⟨belowK_b hn W l o o' hl h h1 h2, fun v hv => cell_kept hv (grownBy_putObj' W l o') (fun r e => by cases e; exact ⟨o, h, h1⟩)⟩
theorem cell_new_m (W : World) (v : Value) (t : TypeId) : (W.alloc (.cells #[v] t)).cell? ⟨W.heap.size, 0, none⟩ = some v ∧ (W.alloc (.cells #[v] t)).frozen? ⟨W.heap.size, 0, none⟩ = false := ⟨by simp [go_sem], by simp [go_sem]⟩
theorem cell_alloc_m {W : World} {a : Addr} {v : Value} (o : Obj) (h : W.cell? a = some v) : (W.alloc o).cell? a = some v := cell_kept h (World.grownBy_alloc W o none) (fun r e => by cases e)
theorem frozen_alloc_m {W : World} {a : Addr} {v : Value} (o : Obj) (h : W.cell? a = some v) (hf : W.frozen? a = false) : (W.alloc o).frozen? a = false := (frozen_kept h (World.grownBy_alloc W o none) (fun r e => by cases e)).trans hf
theorem lines_any (p : Option Addr) (w : World) :
    Calls Tryz.prog 42 #[.pointer p] w fun e w' => e = .returned (.func (.func 111) #[] #[.pointer (some ⟨w.heap.size, 0, none⟩)]) ∧ w' = w.alloc (.cells #[.pointer p] 25) := by
  go_enter Tryz.func42, Tryz.ntmps42
  go_wp2
  go_ret
  exact ⟨rfl, rfl⟩
def sizeL (L : List Ln) : Nat := (L.map (fun x => x.1.size + 1)).sum
theorem sizeL_snoc (L : List Ln) (x : Ln) : sizeL (L ++ [x]) = sizeL L + (x.1.size + 1) := by simp [sizeL]
theorem sizeL_le : ∀ (L : List Ln), sizeL L ≤ 1000001 * L.length
  | [] => by simp [sizeL]
  | x :: L => by
    have h1 := sizeL_le L
    have h2 := x.2
    have e : sizeL (x :: L) = (x.1.size + 1) + sizeL L := by simp [sizeL]
    rw [e, List.length_cons]
    omega
set_option maxHeartbeats 4000000 in
theorem Size_any {w : World} {q : NPl} {N : Nt} {rest : List Int} (h : NetIs w q N) (hg : Good N rest) (hm : N.g.nodes.length ≤ 190000) (hi : N.ins.length ≤ 10000) (hr : N.regs.length ≤ 10000) (ho : N.outs.length ≤ 10000) (hok : EmOk N) (ht : PW w) (L : List Ln) (hL : L.map (·.1) = linesL N) (hLn : L.length ≤ 1000000) :
    Calls Tryz.prog 12 #[.pointer (some ⟨q.b, 0, none⟩)] w fun e w' => e = .returned (.tuple #[.int .i64 (if ckV rest = 0 then sizeL L else 0), .int .i64 (ckV rest)]) ∧ Below w.heap.size w w' := by
  have hck := Lib.hid (Check_any h hg hm hi hr ho)
  have hlin := Lib.hid (fun W => lines_any (some ⟨q.b, 0, none⟩) W)
  generalize ckV rest = ck at *
  by_cases hz : ck = 0
  · subst hz
    rw [if_pos rfl]
    have hst := Lib.hid (fun (w1 : World) (Bn : Nat) (hN : BNk w w1 Bn q) => lines1_in h hok ht hN L hL 4 (by omega))
    clear h hg hm hi hr ho hok ht hL
    refine (callsIn_wide (n := 5)).1 ?_
    refine callsIn_of_wp_marks Tryz.func12 rfl trivial ?_ rfl
    simp only [Tryz.ntmps12, List.size_toArray, List.length_cons, List.length_nil, Nat.reduceAdd, Nat.reduceSub, Array.replicate_succ, Array.replicate_zero, List.push_toArray, List.append_toArray, List.nil_append, List.cons_append]
    gi_wp2_with (first
      | (refine ⟨trivial, ?_⟩; gi_at_call 17; refine (callsIn_wide.2 hck.out).mono ?_; rintro e w2 ⟨rfl, hb2⟩; have hb2 := Lib.hid hb2)
      | (refine ⟨trivial, ?_⟩; gi_at_call 42; refine (callsIn_wide.2 (hlin.out _)).mono ?_; rintro e w3 ⟨rfl, rfl⟩))
    have hc0 := cell_new_m w2 (.int .i64 0) 3
    have hc1 := cell_new_m (w2.alloc (.cells #[.int .i64 0] 3)) (.pointer (some ⟨q.b, 0, none⟩)) 25
    rw [World.size_alloc] at hc1
    have hB0 : Below w.heap.size w ((w2.alloc (.cells #[.int .i64 0] 3)).alloc (.cells #[.pointer (some ⟨q.b, 0, none⟩)] 25)) := (hb2.out.alloc hb2.out.size _).alloc (hb2.out.alloc hb2.out.size _).size _
    have hsz := hb2.out.size
    refine wpIn_rangeFunc_ownF rfl (by omega) (gf := 111) (lb := #[.pointer (some ⟨w2.heap.size + 1, 0, none⟩)]) rfl trivial (enters_of Tryz.func111 (by kernel_rfl) rfl)
      (hst.out _ (w2.heap.size + 1) ⟨hB0, by simp, hc1.1⟩) kpN_t (kpN_b (by simp; omega)) (Below.refl _ _) (fun _ => rfl)
      (fun pre W => (W.cell? ⟨w2.heap.size, 0, none⟩ = some (.int .i64 (sizeL pre)) ∧ W.frozen? ⟨w2.heap.size, 0, none⟩ = false) ∧ Below w.heap.size w W)
      (fun _ _ _ => False)
      (OwnFrom.and (Own.from (fun s A B row hs hg hr => ⟨cell_kept hs.1 hg hr, (frozen_kept hs.1 hg hr).trans hs.2⟩) _) (ownFrom_below (Nat.le_refl _) (by simp; omega)))
      (fun _ _ _ _ _ hs _ _ => hs)
      ⟨⟨cell_alloc_m _ hc0.1, frozen_alloc_m _ hc0.1 hc0.2⟩, hB0⟩
      (fun x => { tmps := #[.pointer (some ⟨q.b, 0, none⟩), undef, .int .i64 0, .int .i64 0, .int .i64 0, .pointer (some ⟨w2.heap.size, 0, none⟩), .string x.1, .pointer (some ⟨q.b, 0, none⟩), .int .i64 0, .int .i64 0, .bool false, undef, .pointer (some ⟨q.b, 0, none⟩), .func (.func 111) #[] #[.pointer (some ⟨w2.heap.size + 1, 0, none⟩)], .string x.1, undef, undef, undef, undef, undef, undef], defers := [] }) ?assign ?body ?done ?stop
    case assign =>
      intro l x W K hK
      gi_wp2
      exact hK
    case body =>
      rintro l pre x W ⟨⟨hc, hf⟩, hB⟩ hlen
      have hx := x.2
      have hle := sizeL_le pre
      have hsn := Lib.hid (sizeL_snoc pre x)
      have hle2 : sizeL pre + 1000001 ≤ 9000000000000000000 := by omega
      clear hle
      generalize sizeL pre = S at *
      gi_wp2
      refine ⟨KeepsOthers.setCell _ _ _, ⟨(Below.refl w.heap.size W).setCell (p := ⟨w2.heap.size, 0, none⟩) hsz _, fun v hv => ?_⟩, ⟨?_, by rw [World.frozen?_setCell]; exact hf⟩, hB.setCell (p := ⟨w2.heap.size, 0, none⟩) hsz _⟩
      · exact ((grownBy_setCell' W w2.heap.size _).cell_far ⟨w2.heap.size + 1, 0, none⟩ (World.block_lt_of_cell? W _ hv) (by simp)).trans hv
      · rw [hsn.out]
        exact World.cell?_setCell_same' _ _ _ (by rw [hc]; rfl)
    case done =>
      rintro D ys W hD rfl ⟨⟨hc, _⟩, hB⟩ hK
      gi_wp2
      refine ⟨by simp, .inl ⟨_, _, rfl, run_takeDeferred hK, ?_⟩⟩
      exact ⟨.tuple #[.int .i64 (sizeL ys), .int .i64 0], by simp [results, Tryz.results12, go_sem], rfl, hB.trans (belowK_b (w := w) (Nat.le_refl _) W D _ _ (by simp at hD; omega) hK rfl rfl)⟩
    case stop =>
      rintro D c pre W _ _ h _
      exact h.elim
  · rw [if_neg hz]
    clear hlin h hg hm hi hr ho hok ht hL
    go_enter Tryz.func12, Tryz.ntmps12
    go_wp2_with (go_at_call 17; (with_reducible refine hck.out.mono ?_); rintro e w2 ⟨rfl, hb2⟩; have hb2 := Lib.hid hb2)
    refine bodyPost_ret (v := .tuple #[.int .i64 0, .int .i64 ck]) (by simp [results, Tryz.results12, go_sem]) rfl ⟨rfl, hb2.out⟩
end Go.Proofs.YtafoohdndlhbnaaGreatDoor
end

section
namespace Go.Proofs.YtafoohdndlhbnaaGreatDoor
open Go.RowKit Go.Maps Bits Go.Shelf
attribute [local go_sem] Oper.semAt_some
set_option maxRecDepth 100000
set_option linter.unusedVariables false

theorem wpListIn_append_str {F : Fence} {n' : Nat} {P : Program} {ops : Array Oper} {rest : List Oper} {o : Oper} {a : Act} {Q : Exit → Act → World → Prop} (w : World) (hgd : o.guard = none) (sl x : Operand) (t u : TypeId)
    (ho : o.op = .call { callee := .builtin .append, args := #[sl, x], argTypes := #[t, u] })
    (base : Nat) (e : TypeId) (i : TypeInfo) (ht : P.underlying t = some (.slice e)) (hu : P.underlying u = some .string) (hi : P.info? e = some i) (hz : i.zero = some (.int .u8 0))
    (hsize : i.size = 1) (hby : i.bytes = 1)
    (v : Value) (n : Nat) (xs : List Value) (hs : a.eval sl = v) (hown : w.ownsRow base e 1 v n xs) (s : ByteArray) (hx : a.eval x = .string s)
    (h63 : n + s.size ≤ maxLen) (hbytes : n + s.size ≤ 140737488355328) (hbase : base ≤ w.heap.size)
    (h : ∀ v' w', w'.ownsRow base e 1 v' (n + s.size) (xs ++ Lib.strCells s) → w.grownBy w' v.ownBlock → wpListIn F n' P ops Q rest (a.put o.dst v') w') : wpListIn F n' P ops Q (o :: rest) a w := by
  refine wpListIn_plain hgd fun K hK => ?_
  obtain ⟨v', w', hr, h2, h3, h4⟩ := Lib.run_append_own_string (P := P) (w := w) base t u o.type e i ht hu hi hz hsize hby v n xs hown s h63 hbytes hbase
  unfold Oper.wpIn
  refine ⟨?_, ?_⟩
  · simp [Oper.about, ho, resolve, Target.leads, Sem.run_pure]
  · rw [Oper.semAt_plain F _ _ (by rw [ho]; intro c hc'; cases hc')]
    simp [execOp, ho, resolve, invoke, builtin, hs, hx, hr, Result.andThen]
    exact hK _ _ (h v' w' h2 h3)
def textT (L : List Ln) : List UInt8 := L.flatMap (fun x => x.1.data.toList ++ [10])
theorem textT_snoc (L : List Ln) (x : Ln) : textT (L ++ [x]) = textT L ++ x.1.data.toList ++ [10] := by simp [textT]
theorem textT_len : ∀ (L : List Ln), (textT L).length = sizeL L
  | [] => rfl
  | x :: L => by
    have h := textT_len L
    have e1 : textT (x :: L) = (x.1.data.toList ++ [10]) ++ textT L := by simp [textT]
    have e2 : sizeL (x :: L) = (x.1.size + 1) + sizeL L := by simp [sizeL]
    rw [e1, e2, List.length_append, h, List.length_append]
    rfl
theorem sizeL_prefix {A L : List Ln} (h : A <+: L) : sizeL A ≤ sizeL L := by
  obtain ⟨B, rfl⟩ := h
  simp [sizeL]

/-- The text so far, its box, the results' boxes and the netlist's box. -/
structure Tx (w : World) (T R q : Nat) (t : List UInt8) (v : Value) (W : World) : Prop where
  bx : Boxed W T 29 v
  own : W.ownsRow w.heap.size 5 1 v t.length (bys t)
  r0 : Boxed W R 29 (.slice none 0 0)
  r1 : Boxed W (R + 1) 30 (.int .i64 0)
  bn : Boxed W (T + 1) 25 (.pointer (some ⟨q, 0, none⟩))
  low : Below w.heap.size w W
theorem Tx.alloc {w W : World} {T R q : Nat} {t : List UInt8} {v : Value} (h : Tx w T R q t v W) (o : Obj) : Tx w T R q t v (W.alloc o) :=
  ⟨h.bx.alloc o, h.own.alloc o, h.r0.alloc o, h.r1.alloc o, h.bn.alloc o, h.low.alloc h.low.size o⟩
/-- Behind an append and its store. -/
theorem Tx.app {w W w1 : World} {T R q : Nat} {t t' : List UInt8} {v v' : Value} (h : Tx w T R q t v W) (hR : w.heap.size ≤ R) (hT : R + 1 < T) (hown : w1.ownsRow w.heap.size 5 1 v' t'.length (bys t')) (hg : W.grownBy w1 v.ownBlock) :
    Boxed w1 T 29 v ∧ Tx w T R q t' v' (w1.setCell ⟨T, 0, none⟩ v') ∧ KeepsOthers W (w1.setCell ⟨T, 0, none⟩ v') ∧ KpN w.heap.size (T + 1) W (w1.setCell ⟨T, 0, none⟩ v') := by
  have hb : Boxed w1 T 29 v := h.bx.kept hg (h.bx.not_row (by decide) h.own)
  have hbn : Boxed (w1.setCell ⟨T, 0, none⟩ v') (T + 1) 25 (.pointer (some ⟨q, 0, none⟩)) := (h.bn.kept hg (h.bn.not_row (by decide) h.own)).kept (grownBy_setCell' w1 T v') (by simp)
  have hlow1 : Below w.heap.size W w1 := (Below.refl _ W).grown hg h.low.size (fun k e => own_ge h.own k e)
  have hset : Below w.heap.size W (w1.setCell ⟨T, 0, none⟩ v') := hlow1.setCell (p := ⟨T, 0, none⟩) (by show w.heap.size ≤ T; omega) v'
  refine ⟨hb, ⟨hb.set v', hown.kept (grownBy_setCell' w1 T v') (.inr (hb.not_row (by decide) hown).symm), (h.r0.kept hg (h.r0.not_row (by decide) h.own)).kept (grownBy_setCell' w1 T v') (by simp; omega), (h.r1.kept hg (h.r1.not_row (by decide) h.own)).kept (grownBy_setCell' w1 T v') (by simp; omega), hbn, h.low.trans hset⟩, ?_, hset, fun u hu => ?_⟩
  · refine (KeepsOthers.of_grownBy hg fun j o ej hj => ?_).trans (KeepsOthers.setCell _ _ _)
    rcases h.own.2 with ⟨rfl, _⟩ | ⟨g, cap, cur, rfl, _, hgb, _⟩
    · simp [Value.ownBlock] at ej
    · obtain rfl : g = j := by simpa [Value.ownBlock] using ej
      rw [hgb] at hj; cases hj; rfl
  · rw [h.bn.cell] at hu
    cases hu
    exact hbn.cell
theorem boxed_turn {X Y : World} {row : Option Nat} {B T : Nat} {v : Value} (h : Boxed X B T v) (hg : X.grownBy Y row) (hr : ∀ r, row = some r → ∃ o : Obj, X.heap[r]? = some o ∧ o.isCells = false) : Boxed Y B T v :=
  h.kept hg (fun e => by
    obtain ⟨o, ho, hc⟩ := hr B e.symm
    rw [show X.heap[B]? = _ from h] at ho
    cases ho; cases hc)
theorem Tx.turn {w X Y : World} {T R q : Nat} {t : List UInt8} {v : Value} {row : Option Nat} (h : Tx w T R q t v X) (hg : X.grownBy Y row) (hr : ∀ r, row = some r → w.heap.size ≤ r ∧ ∃ o : Obj, X.heap[r]? = some o ∧ o.isCells = false) : Tx w T R q t v Y := by
  have hr2 := fun r e => (hr r e).2
  refine ⟨boxed_turn h.bx hg hr2, h.own.kept hg ?_, boxed_turn h.r0 hg hr2, boxed_turn h.r1 hg hr2, boxed_turn h.bn hg hr2, h.low.grown hg h.low.size (fun k e => (hr k e).1)⟩
  rcases h.own.2 with ⟨rfl, _⟩ | ⟨g, cap, cur, rfl, _, hgb, _⟩
  · exact .inl rfl
  · refine .inr fun e' => ?_
    obtain ⟨o, ho, hc⟩ := hr2 g (by simpa [Value.ownBlock] using e'.symm)
    rw [hgb] at ho; cases ho; cases hc
theorem news1t (w : World) (p : Addr) (b v : Value) (T : Nat) : ∀ (j : Nat) (u : Value), [v][j]? = some u → ((w.setCell p b).alloc (.cells #[v] T)).cell? ((⟨w.heap.size, 0, none⟩ : Addr).add j) = some u := fun j u h => by
  have h1 := news1 (w.setCell p b) v T j u h
  rw [show (w.setCell p b).heap.size = w.heap.size by simp [World.setCell]] at h1
  exact h1
theorem kpN_alloc {n₀ Bn : Nat} {W : World} (h : n₀ ≤ W.heap.size) (o : Obj) : KpN n₀ Bn W (W.alloc o) := ⟨(Below.refl n₀ W).alloc h o, fun v hv => cell_alloc_m o hv⟩
/-- What All tells. -/
def AllR (w w' : World) (ck : Int) (L : List Ln) (va : Value) (c : Int) : Prop :=
  (ck ≠ 0 ∧ va = .slice none 0 0 ∧ c = ck) ∨ (ck = 0 ∧ sizeL L ≤ 16777216 ∧ c = 0 ∧ w'.ownsRow w.heap.size 5 1 va (textT L).length (bys (textT L))) ∨ (ck = 0 ∧ 16777216 < sizeL L ∧ va = .slice none 0 0 ∧ c = 3)
set_option maxHeartbeats 4000000 in
theorem All_any {w : World} {q : NPl} {N : Nt} {rest : List Int} (h : NetIs w q N) (hg : Good N rest) (hm : N.g.nodes.length ≤ 190000) (hi : N.ins.length ≤ 10000) (hr : N.regs.length ≤ 10000) (ho : N.outs.length ≤ 10000) (hok : EmOk N) (ht : PW w) (L : List Ln) (hL : L.map (·.1) = linesL N) (hLn : L.length ≤ 1000000) :
    Calls Tryz.prog 10 #[.pointer (some ⟨q.b, 0, none⟩)] w fun e w' => ∃ va c, e = .returned (.tuple #[va, .int .i64 c]) ∧ AllR w w' (ckV rest) L va c ∧ Below w.heap.size w w' := by
  have hckF := Lib.hid (fun (W : World) (hb : Below w.heap.size w W) => Check_any (h.below hb) hg hm hi hr ho)
  have hlin := Lib.hid (fun W => lines_any (some ⟨q.b, 0, none⟩) W)
  generalize ckV rest = ck at *
  obtain ⟨i0, hin, hz0, hz1, hz2⟩ := info_parts info_u8t
  obtain ⟨w1, hw1⟩ : ∃ w1, w1 = (w.alloc (.cells #[.slice none 0 0] 29)).alloc (.cells #[.int .i64 0] 30) := ⟨_, rfl⟩
  have hB1 : Below w.heap.size w w1 := by rw [hw1]; exact ((Below.refl _ w).alloc (Nat.le_refl _) _).alloc (by simp) _
  have hR0 : Boxed w1 w.heap.size 29 (.slice none 0 0) := by rw [hw1]; exact (Boxed.new w _ _).alloc _
  have hR1 : Boxed w1 (w.heap.size + 1) 30 (.int .i64 0) := by
    rw [hw1]
    have := Boxed.new (w.alloc (.cells #[.slice none 0 0] 29)) 30 (.int .i64 0)
    rw [World.size_alloc] at this
    exact this
  have hsz1 : w1.heap.size = w.heap.size + 2 := by rw [hw1]; simp
  have hck := Lib.hid (hckF.out w1 hB1)
  have hbx := Lib.hid (fun W (hb : Below w1.heap.size w1 W) => (⟨(hb.block _ (by omega)).trans hR0, (hb.block _ (by omega)).trans hR1, nextw hB1 hb⟩ : Boxed W w.heap.size 29 (.slice none 0 0) ∧ Boxed W (w.heap.size + 1) 30 (.int .i64 0) ∧ Below w.heap.size w W))
  rw [hw1] at hck hbx
  by_cases hz : ck = 0
  · subst hz
    have hst := Lib.hid (fun (w1 : World) (Bn : Nat) (hN : BNk w w1 Bn q) => lines1_in h hok ht hN L hL 4 (by omega))
    clear h hg hm hi hr ho hok ht hL hckF
    refine (callsIn_wide (n := 5)).1 ?_
    refine callsIn_of_wp_marks Tryz.func10 rfl trivial ?_ rfl
    simp only [Tryz.ntmps10, List.size_toArray, List.length_cons, List.length_nil, Nat.reduceAdd, Nat.reduceSub, Array.replicate_succ, Array.replicate_zero, List.push_toArray, List.append_toArray, List.nil_append, List.cons_append]
    gi_wp2_with (first
      | (refine ⟨trivial, ?_⟩; gi_at_call 17; refine (callsIn_wide.2 hck.out).mono ?_; rintro e w2 ⟨rfl, hb2⟩; have hb2 := Lib.hid hb2)
      | (refine ⟨trivial, ?_⟩; gi_at_call 42; refine (callsIn_wide.2 (hlin.out _)).mono ?_; rintro e w3 ⟨rfl, rfl⟩))
    have hb2' : Below w1.heap.size w1 w2 := by rw [hw1]; exact hb2.out
    have hBw2 : Below w.heap.size w w2 := nextw hB1 hb2'
    have hs2 : w.heap.size + 2 ≤ w2.heap.size := by have := hb2'.size; omega
    have hR0 : Boxed w2 w.heap.size 29 (.slice none 0 0) := (hb2'.block _ (by omega)).trans hR0
    have hR1 : Boxed w2 (w.heap.size + 1) 30 (.int .i64 0) := (hb2'.block _ (by omega)).trans hR1
    have hTL : Tx w w2.heap.size w.heap.size q.b [] (.slice none 0 0) ((w2.alloc (.cells #[.slice none 0 0] 29)).alloc (.cells #[.pointer (some ⟨q.b, 0, none⟩)] 25)) := by
      refine ⟨(Boxed.new w2 _ _).alloc _, ⟨rfl, .inl ⟨rfl, rfl⟩⟩, (hR0.alloc _).alloc _, (hR1.alloc _).alloc _, ?_, (hBw2.alloc hBw2.size _).alloc (hBw2.alloc hBw2.size _).size _⟩
      have := Boxed.new (w2.alloc (.cells #[.slice none 0 0] 29)) 25 (.pointer (some ⟨q.b, 0, none⟩))
      rw [World.size_alloc] at this
      exact this
    have hsL : w.heap.size ≤ ((w2.alloc (.cells #[.slice none 0 0] 29)).alloc (.cells #[.pointer (some ⟨q.b, 0, none⟩)] 25)).heap.size := hTL.low.size
    clear hck hlin hb2 hb2' hw1 hB1 hsz1
    refine wpIn_rangeFunc_ownF rfl (by omega) (gf := 111) (lb := #[.pointer (some ⟨w2.heap.size + 1, 0, none⟩)]) rfl trivial (enters_of Tryz.func111 (by kernel_rfl) rfl)
      (hst.out _ (w2.heap.size + 1) ⟨hTL.low, by simp, hTL.bn.cell⟩) kpN_t (kpN_b (by simp; omega)) (Below.refl _ _) (fun _ => rfl)
      (fun pre W => (∃ v, Tx w w2.heap.size w.heap.size q.b (textT pre) v W) ∧ sizeL pre ≤ 16777216)
      (fun c pre W => (c = .ret ∧ 16777216 < sizeL pre) ∧ Boxed W w.heap.size 29 (.slice none 0 0) ∧ Boxed W (w.heap.size + 1) 30 (.int .i64 3) ∧ Below w.heap.size w W)
      (fun s A B row hs hg hr => ⟨⟨hs.1.choose, hs.1.choose_spec.turn hg (fun r e => ⟨Nat.le_trans hsL (hr r e).1, (hr r e).2⟩)⟩, hs.2⟩)
      (fun c s A B row hs hg hr => ⟨hs.1, boxed_turn hs.2.1 hg (fun r e => (hr r e).2), boxed_turn hs.2.2.1 hg (fun r e => (hr r e).2), hs.2.2.2.grown hg hs.2.2.2.size (fun k e => Nat.le_trans hsL (hr k e).1)⟩)
      ⟨⟨_, hTL⟩, by simp [sizeL]⟩
      (fun x => { tmps := #[.pointer (some ⟨q.b, 0, none⟩), undef, .pointer (some ⟨w.heap.size, 0, none⟩), .pointer (some ⟨w.heap.size + 1, 0, none⟩), .int .i64 0, .pointer (some ⟨w2.heap.size, 0, none⟩), .string x.1, .pointer (some ⟨q.b, 0, none⟩), .int .i64 0, .int .i64 0, .bool false, undef, .pointer (some ⟨q.b, 0, none⟩), .func (.func 111) #[] #[.pointer (some ⟨w2.heap.size + 1, 0, none⟩)], .string x.1, undef, undef, undef, undef, undef, undef, undef, undef, undef, undef], defers := [] }) ?assign ?body ?done ?stop
    case assign =>
      intro l x W K hK
      gi_wp2
      exact hK
    case body =>
      rintro l pre x W ⟨⟨v, hT⟩, hp⟩ hlen
      have hx := x.2
      have hsn := Lib.hid (textT_snoc pre x)
      have hsl := Lib.hid (textT_len (pre ++ [x]))
      have hl0 : (textT pre).length ≤ 16777216 := by rw [textT_len]; exact hp
      generalize textT pre = t at *
      obtain ⟨t7, ht7⟩ : ∃ t7, t7 = t ++ x.1.data.toList := ⟨_, rfl⟩
      obtain ⟨t8, ht8⟩ : ∃ t8, t8 = t7 ++ [10] := ⟨_, rfl⟩
      have l7 : t7.length = t.length + x.1.size := by rw [ht7, List.length_append]; rfl
      have l8 : t8.length = t7.length + 1 := by rw [ht8, List.length_append]; rfl
      have hE7 : Hid (bys t ++ Lib.strCells x.1 = bys t7) := Lib.hid (by rw [ht7, bys_app, strCells_bys])
      have hE8 : Hid (bys t7 ++ [.int .u8 10] = bys t8) := Lib.hid (by rw [ht8, bys_app]; rfl)
      have hE9 : Hid (textT (pre ++ [x]) = t8) := Lib.hid (by rw [hsn.out, ht8, ht7])
      have hS1 : sizeL (pre ++ [x]) = t8.length := by rw [← hsl.out, hE9.out]
      have l9 : t7.length ≤ 17777216 := by omega
      have l10 : t8.length ≤ 17777217 := by omega
      have m7 := Lib.hid l7
      have m8 := Lib.hid l8
      have mS := Lib.hid hS1
      clear l7 l8 hS1
      clear hsn hsl ht7 ht8
      obtain ⟨va, vc, rfl⟩ := own_slice hT.own
      have hT := Lib.hid hT
      have hc0 := hT.out.bx.cell
      have hf0 := hT.out.bx.frozen
      generalize x.1 = xs at *
      by_cases hgt : 16777216 < t8.length
      · have hd : decide ((16777216 : Int) < (t8.length : Int)) = true := by simp; omega
        gi_wp2_with (first
        | (gi_at_builtin; refine wpListIn_append_str _ rfl _ _ 29 9 rfl w.heap.size 5 i0 Tryz.underlying29 Tryz.underlying9 hin hz0 hz1 hz2 _ _ _ rfl hT.out.own xs rfl (by unfold maxLen; omega) (by omega) hT.out.low.size ?_; intro v7 w7 hown7 hg7; rw [hE7.out, ← m7.out] at hown7; obtain ⟨hx7, hT7, hk7, hp7⟩ := hT.out.app (Nat.le_refl _) (by omega) hown7 hg7; obtain ⟨a7, c7, rfl⟩ := own_slice hown7; have d7 := hx7.cell; have f7 := hx7.frozen; have hT7 := Lib.hid hT7; have e7 := hT7.out.bx.cell; have g7 := hT7.out.bx.frozen; have hk7 := Lib.hid hk7; have hp7 := Lib.hid hp7; clear hown7 hg7 hx7)
        | (gi_at_builtin; refine wpListIn_append_own _ rfl _ _ 29 rfl w.heap.size 5 i0 (.int .u8 0) 1 1 Tryz.underlying29 hin hz0 hz1 hz2 rfl (by decide) _ _ _ rfl (hT7.out.alloc _).own ⟨w7.heap.size, 0, none⟩ 1 1 [.int .u8 10] rfl rfl (news1t _ _ _ _ _) (by simp [Value.oneCell']) (by unfold maxLen; omega) (by omega) ((hT7.out.alloc _).low.size) ?_; intro v8 w8 hown8 hg8 _; rw [hE8.out, ← m8.out] at hown8; obtain ⟨hx8, hT8, hk8, hp8⟩ := (hT7.out.alloc (.cells #[.int .u8 10] 5)).app (Nat.le_refl _) (by omega) hown8 hg8; obtain ⟨a8, c8, rfl⟩ := own_slice hown8; have d8 := hx8.cell; have f8 := hx8.frozen; have hT8 := Lib.hid hT8; have e8 := hT8.out.bx.cell; have r80 := hT8.out.r0.cell; have r81 := hT8.out.r1.cell; have r82 := hT8.out.r0.frozen; have r83 := hT8.out.r1.frozen; have hk8 := Lib.hid hk8; have hp8 := Lib.hid hp8; clear hown8 hg8 hx8))
        have hkk := (hk7.out.trans (KeepsOthers.alloc _ _)).trans hk8.out
        refine ⟨(hkk.trans (KeepsOthers.setCell _ _ _)).trans (KeepsOthers.setCell _ _ _), ⟨rfl, by rw [mS.out]; exact hgt⟩, (hT8.out.r0.set _).other (by omega) _, (hT8.out.r1.other (by omega) _).set _, (hT8.out.low.setCell (p := ⟨w.heap.size, 0, none⟩) (Nat.le_refl _) _).setCell (p := ⟨w.heap.size + 1, 0, none⟩) (by show w.heap.size ≤ w.heap.size + 1; omega) _⟩
      · have hd : decide ((16777216 : Int) < (t8.length : Int)) = false := by simp; omega
        gi_wp2_with (first
        | (gi_at_builtin; refine wpListIn_append_str _ rfl _ _ 29 9 rfl w.heap.size 5 i0 Tryz.underlying29 Tryz.underlying9 hin hz0 hz1 hz2 _ _ _ rfl hT.out.own xs rfl (by unfold maxLen; omega) (by omega) hT.out.low.size ?_; intro v7 w7 hown7 hg7; rw [hE7.out, ← m7.out] at hown7; obtain ⟨hx7, hT7, hk7, hp7⟩ := hT.out.app (Nat.le_refl _) (by omega) hown7 hg7; obtain ⟨a7, c7, rfl⟩ := own_slice hown7; have d7 := hx7.cell; have f7 := hx7.frozen; have hT7 := Lib.hid hT7; have e7 := hT7.out.bx.cell; have g7 := hT7.out.bx.frozen; have hk7 := Lib.hid hk7; have hp7 := Lib.hid hp7; clear hown7 hg7 hx7)
        | (gi_at_builtin; refine wpListIn_append_own _ rfl _ _ 29 rfl w.heap.size 5 i0 (.int .u8 0) 1 1 Tryz.underlying29 hin hz0 hz1 hz2 rfl (by decide) _ _ _ rfl (hT7.out.alloc _).own ⟨w7.heap.size, 0, none⟩ 1 1 [.int .u8 10] rfl rfl (news1t _ _ _ _ _) (by simp [Value.oneCell']) (by unfold maxLen; omega) (by omega) ((hT7.out.alloc _).low.size) ?_; intro v8 w8 hown8 hg8 _; rw [hE8.out, ← m8.out] at hown8; obtain ⟨hx8, hT8, hk8, hp8⟩ := (hT7.out.alloc (.cells #[.int .u8 10] 5)).app (Nat.le_refl _) (by omega) hown8 hg8; obtain ⟨a8, c8, rfl⟩ := own_slice hown8; have d8 := hx8.cell; have f8 := hx8.frozen; have hT8 := Lib.hid hT8; have e8 := hT8.out.bx.cell; have r80 := hT8.out.r0.cell; have r81 := hT8.out.r1.cell; have r82 := hT8.out.r0.frozen; have r83 := hT8.out.r1.frozen; have hk8 := Lib.hid hk8; have hp8 := Lib.hid hp8; clear hown8 hg8 hx8))
        refine ⟨((hk7.out.trans (KeepsOthers.alloc _ _)).trans hk8.out), kpN_t (kpN_t hp7.out (kpN_alloc hT7.out.low.size _)) hp8.out, ⟨_, by rw [hE9.out]; exact hT8.out⟩, by rw [mS.out]; omega⟩
    case done =>
      rintro D ys W hD rfl ⟨⟨v, hT⟩, hp⟩ hK
      obtain ⟨va, vc, rfl⟩ := own_slice hT.own
      have c5 := hT.bx.cell
      have r80 := hT.r0.cell
      have r81 := hT.r1.cell
      have r82 := hT.r0.frozen
      have r83 := hT.r1.frozen
      have hT := Lib.hid hT
      have hD2 : w.heap.size ≤ D := Nat.le_trans hsL hD
      gi_wp2
      have hK1 := (KeepsOthers.setCell W ⟨w.heap.size, 0, none⟩ (.slice va (textT ys).length vc)).same D _ hK rfl
      have hK2 := (KeepsOthers.setCell _ ⟨w.heap.size + 1, 0, none⟩ (.int .i64 0)).same D _ hK1 rfl
      refine ⟨by simp, .inl ⟨_, _, rfl, run_takeDeferred hK2, ?_⟩⟩
      have x0 := (boxed_turn ((hT.out.r0.set (.slice va (textT ys).length vc)).other (B' := w.heap.size + 1) (by omega) (.int .i64 0)) (grownBy_putObj' _ D (.deferred none)) (fun r e => by cases e; exact ⟨_, hK2, rfl⟩)).cell
      have x1 := (boxed_turn ((hT.out.r1.other (B' := w.heap.size) (by omega) (.slice va (textT ys).length vc)).set (.int .i64 0)) (grownBy_putObj' _ D (.deferred none)) (fun r e => by cases e; exact ⟨_, hK2, rfl⟩)).cell
      have hr1 := hT.out.r0.set (.slice va (textT ys).length vc)
      have hown1 := hT.out.own.kept (grownBy_setCell' W w.heap.size (.slice va (textT ys).length vc)) (.inr (hT.out.r0.not_row (by decide) hT.out.own).symm)
      have hown2 := hown1.kept (grownBy_setCell' _ (w.heap.size + 1) (.int .i64 0)) (.inr (hT.out.r1.not_row (by decide) hT.out.own).symm)
      have hown3 := ownsRow_putObj hown2 (.deferred none) hK2 rfl
      refine ⟨.tuple #[.slice va (textT ys).length vc, .int .i64 0], ?_, ⟨_, _, rfl, .inr (.inl ⟨rfl, hp, rfl, hown3⟩), ((hT.out.low.setCell (p := ⟨w.heap.size, 0, none⟩) (Nat.le_refl _) _).setCell (p := ⟨w.heap.size + 1, 0, none⟩) (by show w.heap.size ≤ w.heap.size + 1; omega) _).trans (belowK_b (w := w) (Nat.le_refl _) _ D _ _ hD2 hK2 rfl rfl)⟩⟩
      simp [results, Tryz.f10, go_sem, x0, x1]
    case stop =>
      rintro D c pre W hD hpre ⟨⟨rfl, hgt⟩, h0, h1, hB⟩ hK
      have hD2 : w.heap.size ≤ D := Nat.le_trans hsL hD
      gi_wp2
      refine ⟨by simp, .inl ⟨_, _, rfl, run_takeDeferred hK, ?_⟩⟩
      have x0 := (boxed_turn h0 (grownBy_putObj' _ D (.deferred none)) (fun r e => by cases e; exact ⟨_, hK, rfl⟩)).cell
      have x1 := (boxed_turn h1 (grownBy_putObj' _ D (.deferred none)) (fun r e => by cases e; exact ⟨_, hK, rfl⟩)).cell
      refine ⟨.tuple #[.slice none 0 0, .int .i64 3], ?_, ⟨_, _, rfl, .inr (.inr ⟨rfl, Nat.lt_of_lt_of_le hgt (sizeL_prefix hpre), rfl, rfl⟩), hB.trans (belowK_b (w := w) (Nat.le_refl _) _ D _ _ hD2 hK rfl rfl)⟩⟩
      simp [results, Tryz.f10, go_sem, x0, x1]
  · clear hlin h hg hm hi hr ho hok ht hL hckF hR0 hR1
    go_enter Tryz.func10, Tryz.ntmps10
    go_wp2_with (go_at_call 17; (with_reducible refine hck.out.mono ?_); rintro e w2 ⟨rfl, hb2⟩; obtain ⟨y0, y1, hb3⟩ := hbx.out _ hb2; have r0 := y0.cell; have r1 := y1.cell; have r2 := y0.frozen; have r3 := y1.frozen; have y0 := Lib.hid y0; have y1 := Lib.hid y1; have hb3 := Lib.hid hb3; clear hb2)
    have z0 := ((y0.out.set (.slice none 0 0)).other (B' := w.heap.size + 1) (by omega) (.int .i64 ck)).cell
    have z1 := ((y1.out.other (B' := w.heap.size) (by omega) (.slice none 0 0)).set (.int .i64 ck)).cell
    refine bodyPost_ret (v := .tuple #[.slice none 0 0, .int .i64 ck]) (by simp [results, Tryz.f10, go_sem, z0, z1]) rfl ⟨_, _, rfl, .inl ⟨hz, rfl, rfl⟩, (hb3.out.setCell (p := ⟨w.heap.size, 0, none⟩) (Nat.le_refl _) _).setCell (p := ⟨w.heap.size + 1, 0, none⟩) (by show w.heap.size ≤ w.heap.size + 1; omega) _⟩
end Go.Proofs.YtafoohdndlhbnaaGreatDoor
end

section
namespace Go.Proofs.YtafoohdndlhbnaaGreatDoor
open Go.RowKit Go.Maps Bits Go.Shelf
set_option maxRecDepth 100000
set_option linter.unusedVariables false

theorem getD_mem {l : List Int} (P : Int → Prop) (h0 : P 0) (h : ∀ x ∈ l, P x) (i : Nat) : P (l.getD i 0) := by
  by_cases hi : i < l.length
  · rw [List.getD_eq_getElem?_getD, List.getElem?_eq_getElem hi]
    exact h _ (List.getElem_mem hi)
  · rw [List.getD_eq_getElem?_getD, List.getElem?_eq_none (by omega)]
    exact h0
theorem inLits_lit {N : Nt} {rest : List Int} (hg : Good N rest) (hS : Small N) {x : Int} (hx : x ∈ takenN N) : 0 ≤ x ∧ x < 4294967296 := by
  have h1 : x ∈ inLits N.g := hg.drv.mem_iff.1 (List.mem_append_left _ hx)
  obtain ⟨v, hv, rfl⟩ := List.mem_map.1 h1
  obtain ⟨k, hk⟩ := List.getElem?_of_mem hv
  obtain ⟨i, rfl, h0, n, hn, -⟩ := hg.wf.ins k v hk
  have := (List.getElem?_eq_some_iff.1 hn).1
  have := hS.g
  omega
theorem EmOk.of {N : Nt} {rest : List Int} (hg : Good N rest) (hS : Small N) : EmOk N := by
  have hin : ∀ b ∈ N.ins, ∀ x ∈ b.lits, x ∈ takenN N := fun b hb x hx => List.mem_append_left _ (List.mem_flatMap.2 ⟨b, hb, hx⟩)
  refine ⟨hg.wf, ?_, ?_, ?_, ?_, ?_, fun b hb => ⟨(hg.ins.wide b hb).2, fun i => ?_, ?_⟩, fun b hb => ⟨(hg.outs.wide b hb).2, fun i => ?_, ?_⟩, fun r hr => ⟨?_, (hg.regT r hr).1.1, (hg.regT r hr).2.1⟩⟩
  · have := hS.g; omega
  · have := mayName_size hg.name; omega
  · have := hS.ins; omega
  · have := hS.regs; omega
  · have := hS.outs; omega
  · exact getD_mem (fun x => 0 ≤ x ∧ x < 4294967296) (by omega) (fun x hx => inLits_lit hg hS (hin b hb x hx)) i
  · have := mayName_size (hg.ins.name b hb); omega
  · exact getD_mem (fun x => 0 ≤ x ∧ x < 4294967296) (by omega) (fun x hx => (hg.outT b hb x hx).1) i
  · have := mayName_size (hg.outs.name b hb); omega
  · exact inLits_lit hg hS (List.mem_append_right _ (List.mem_map.2 ⟨r, hr, rfl⟩))
theorem spellS_size (xs : List ByteArray) (h : ∀ x ∈ xs, x.size ≤ 1000) : (spellS xs).size ≤ 1001 * xs.length := by
  have h1 := join_len (xs.map (·.data.toList)) 1000 (fun y hy => by
    obtain ⟨x, hx, rfl⟩ := List.mem_map.1 hy
    exact h x hx)
  rw [List.length_map] at h1
  exact h1
theorem decS_size {x : Int} (h : 0 ≤ x ∧ x < 4294967296) : (decS x).size ≤ 1000 := decS_len x h.1 (by omega)
theorem busS_size {s : ByteArray} {b : Bus} (hs : s.size ≤ 1000) (h : b.lits.length ≤ 64 ∧ (∀ i, 0 ≤ b.lits.getD i 0 ∧ b.lits.getD i 0 < 4294967296) ∧ b.name.size ≤ 1000) : (busS s b).size ≤ 1000000 := by
  have h1 := spellS_size ([s, b.name] ++ (List.range b.lits.length).map (fun i => decS (b.lits.getD i 0))) (fun x hx => by
    rcases List.mem_append.1 hx with hx | hx
    · simp at hx
      rcases hx with rfl | rfl
      · exact hs
      · exact h.2.2
    · obtain ⟨i, -, rfl⟩ := List.mem_map.1 hx
      exact decS_size (h.2.1 i))
  have h2 : ([s, b.name] ++ (List.range b.lits.length).map (fun i => decS (b.lits.getD i 0))).length ≤ 66 := by simp; omega
  show (spellS _).size ≤ _
  have := Nat.mul_le_mul_left 1001 h2
  omega
theorem nodeAt_lits {G : Gr} (hW : Wf G) (hm : G.nodes.length ≤ 200000) {j : Nat} (hj : j < G.nodes.length) (hgt : (nodeAt G j).gate = true) : (0 ≤ (nodeAt G j).a ∧ (nodeAt G j).a < 4294967296) ∧ (0 ≤ (nodeAt G j).b ∧ (nodeAt G j).b < 4294967296) := by
  have e : G.nodes[j]? = some (nodeAt G j) := by unfold nodeAt; rw [List.getD_eq_getElem?_getD, List.getElem?_eq_getElem hj]; rfl
  obtain ⟨h1, h2, -, -⟩ := hW.gates j _ e hgt
  exact ⟨h1, h2⟩
theorem begin_size (b : Bool) : (sBegin b).size ≤ 1000 := by cases b <;> decide
theorem lines_size {N : Nt} (h : EmOk N) : ∀ x ∈ linesL N, x.size ≤ 1000000 := by
  intro x hx
  unfold linesL at hx
  rcases List.mem_cons.1 hx with rfl | hx
  · have := spellS_size [sModel, N.name] (fun x hx => by
      simp at hx
      rcases hx with rfl | rfl
      · decide
      · exact h.name)
    simp at this
    omega
  rcases List.mem_append.1 hx with hx | hx
  · obtain ⟨b, hb, rfl⟩ := List.mem_map.1 hx
    exact busS_size (by decide) (h.ins b hb)
  rcases List.mem_append.1 hx with hx | hx
  · obtain ⟨r, hr, rfl⟩ := List.mem_map.1 hx
    obtain ⟨h1, h2, h3⟩ := h.regs r hr
    have := spellS_size [sLatch, decS r.q, decS r.d, decS r.en, sBegin r.init] (fun x hx => by
      simp at hx
      rcases hx with rfl | rfl | rfl | rfl | rfl
      · decide
      · exact decS_size h1
      · exact decS_size h2
      · exact decS_size h3
      · exact begin_size _)
    simp at this
    show (spellS _).size ≤ _
    omega
  rcases List.mem_append.1 hx with hx | hx
  · unfold gatesL at hx
    obtain ⟨j, hj, rfl⟩ := List.mem_map.1 hx
    obtain ⟨hj, hgt⟩ := List.mem_filter.1 hj
    have hj := List.mem_range.1 hj
    obtain ⟨h1, h2⟩ := nodeAt_lits h.wf h.few hj hgt
    have hf := h.few
    have := spellS_size [sAnd, decS (2 * (j : Int)), decS (nodeAt N.g j).a, decS (nodeAt N.g j).b] (fun x hx => by
      simp at hx
      rcases hx with rfl | rfl | rfl | rfl
      · decide
      · exact decS_size (by omega)
      · exact decS_size h1
      · exact decS_size h2)
    simp at this
    show (spellS _).size ≤ _
    omega
  rcases List.mem_append.1 hx with hx | hx
  · obtain ⟨b, hb, rfl⟩ := List.mem_map.1 hx
    exact busS_size (by decide) (h.outs b hb)
  · simp at hx
    subst hx
    decide
theorem gatesL_len (G : Gr) (n : Nat) : (gatesL G n).length ≤ n := by
  unfold gatesL
  rw [List.length_map]
  have := List.length_filter_le (fun j => (nodeAt G j).gate) (List.range n)
  simpa using this
theorem lines_ln {N : Nt} (h : EmOk N) (hS : Small N) : ∃ L : List Ln, L.map (·.1) = linesL N ∧ L.length ≤ 1000000 := by
  refine ⟨(linesL N).attach.map (fun x => ⟨x.1, lines_size h x.1 x.2⟩), ?_, ?_⟩
  · rw [List.map_map]
    exact List.attach_map_subtype_val (linesL N)
  · rw [List.length_map, List.length_attach, linesL_len]
    have h1 := gatesL_len N.g N.g.nodes.length
    have h2 := hS.g
    have h3 := hS.ins
    have h4 := hS.regs
    have h5 := hS.outs
    omega
/-- The text, plainly. -/
def textN (N : Nt) : List UInt8 := (linesL N).flatMap (fun x => x.data.toList ++ [10])
theorem textT_of {N : Nt} {L : List Ln} (h : L.map (·.1) = linesL N) : textT L = textN N := by
  unfold textN
  rw [← h, List.flatMap_map]
  rfl
/-- What All tells. -/
def AllQ (w w' : World) (ck : Int) (T : List UInt8) (va : Value) (c : Int) : Prop :=
  (ck ≠ 0 ∧ va = .slice none 0 0 ∧ c = ck) ∨ (ck = 0 ∧ T.length ≤ 16777216 ∧ c = 0 ∧ w'.ownsRow w.heap.size 5 1 va T.length (bys T)) ∨ (ck = 0 ∧ 16777216 < T.length ∧ va = .slice none 0 0 ∧ c = 3)
theorem All_good {w : World} {q : NPl} {N : Nt} {rest : List Int} (h : NetIs w q N) (hg : Good N rest) (hS : Small N) (ht : PW w) :
    Calls Tryz.prog 10 #[.pointer (some ⟨q.b, 0, none⟩)] w fun e w' => ∃ va c, e = .returned (.tuple #[va, .int .i64 c]) ∧ AllQ w w' (ckV rest) (textN N) va c ∧ Below w.heap.size w w' := by
  obtain ⟨L, hL, hn⟩ := lines_ln (EmOk.of hg hS) hS
  have hx := All_any h hg (by have := hS.g; omega) (by have := hS.ins; omega) (by have := hS.regs; omega) (by have := hS.outs; omega) (EmOk.of hg hS) ht L hL hn
  refine hx.mono ?_
  rintro e w' ⟨va, c, rfl, hA, hB⟩
  refine ⟨va, c, rfl, ?_, hB⟩
  unfold AllR at hA
  rw [← textT_len, textT_of hL] at hA
  exact hA
theorem Size_good {w : World} {q : NPl} {N : Nt} {rest : List Int} (h : NetIs w q N) (hg : Good N rest) (hS : Small N) (ht : PW w) :
    Calls Tryz.prog 12 #[.pointer (some ⟨q.b, 0, none⟩)] w fun e w' => e = .returned (.tuple #[.int .i64 (if ckV rest = 0 then (textN N).length else 0 : Nat), .int .i64 (ckV rest)]) ∧ Below w.heap.size w w' := by
  obtain ⟨L, hL, hn⟩ := lines_ln (EmOk.of hg hS) hS
  have hx := Size_any h hg (by have := hS.g; omega) (by have := hS.ins; omega) (by have := hS.regs; omega) (by have := hS.outs; omega) (EmOk.of hg hS) ht L hL hn
  rw [← textT_len, textT_of hL] at hx
  refine hx.mono ?_
  rintro e w' ⟨rfl, hB⟩
  refine ⟨?_, hB⟩
  congr 3
  split <;> rfl
end Go.Proofs.YtafoohdndlhbnaaGreatDoor
end
