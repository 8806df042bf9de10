/-
  Package emit: All.
  AddOut, AddIn.
-/
import Derived.Test.YtnhpjacodhdpeaaDoorFEKO
import Derived.RangeFuncBox
import Derived.Lib.AppendStr
import Derived.Test.YtnhpjacodhdpeaaDoorFEKN
section
namespace Go.Proofs.YtnhpjacodhdpeaaDoor
open Go.RowKit Go.Maps Bits Go.Shelf
attribute [local go_sem] Oper.semAt_some
set_option maxRecDepth 100000
set_option linter.unusedVariables false

theorem wpListIn_append_str {F : Fence} {n' : Nat} {P : Program} {ops : Array Oper} {rest : List Oper} {o : Oper} {a : Act} {Q : Exit → Act → World → Prop} (w : World) (hgd : o.guard = none) (sl x : Operand) (t u : TypeId)
    (ho : o.op = .call { callee := .builtin .append, args := #[sl, x], argTypes := #[t, u] })
    (base : Nat) (e : TypeId) (i : TypeInfo) (ht : P.underlying t = some (.slice e)) (hu : P.underlying u = some .string) (hi : P.info? e = some i) (hz : i.zero = some (.int .u8 0))
    (hsize : i.size = 1) (hby : i.bytes = 1)
    (v : Value) (n : Nat) (xs : List Value) (hs : a.eval sl = v) (hown : w.ownsRow base e 1 v n xs) (s : ByteArray) (hx : a.eval x = .string s)
    (h63 : n + s.size ≤ maxLen) (hbytes : n + s.size ≤ 140737488355328) (hbase : base ≤ w.heap.size)
    (h : ∀ v' w', w'.ownsRow base e 1 v' (n + s.size) (xs ++ Lib.strCells s) → w.grownBy w' v.ownBlock → wpListIn F n' P ops Q rest (a.put o.dst v') w') : wpListIn F n' P ops Q (o :: rest) a w := by
  refine wpListIn_plain hgd fun K hK => ?_
  obtain ⟨v', w', hr, h2, h3, h4⟩ := Lib.run_append_own_string (P := P) (w := w) base t u o.type e i ht hu hi hz hsize hby v n xs hown s h63 hbytes hbase
  unfold Oper.wpIn
  refine ⟨?_, ?_⟩
  · simp [Oper.about, ho, resolve, Target.leads, Sem.run_pure]
  · rw [Oper.semAt_plain F _ _ (by rw [ho]; intro c hc'; cases hc')]
    simp [execOp, ho, resolve, invoke, builtin, hs, hx, hr, Result.andThen]
    exact hK _ _ (h v' w' h2 h3)
def textT (L : List Ln) : List UInt8 := L.flatMap (fun x => x.1.data.toList ++ [10])
theorem textT_snoc (L : List Ln) (x : Ln) : textT (L ++ [x]) = textT L ++ x.1.data.toList ++ [10] := by simp [textT]
theorem textT_len : ∀ (L : List Ln), (textT L).length = sizeL L
  | [] => rfl
  | x :: L => by
    have h := textT_len L
    have e1 : textT (x :: L) = (x.1.data.toList ++ [10]) ++ textT L := by simp [textT]
    have e2 : sizeL (x :: L) = (x.1.size + 1) + sizeL L := by simp [sizeL]
    rw [e1, e2, List.length_append, h, List.length_append]
    rfl
theorem sizeL_prefix {A L : List Ln} (h : A <+: L) : sizeL A ≤ sizeL L := by
  obtain ⟨B, rfl⟩ := h
  simp [sizeL]

/-- The text so far, its box, the results' boxes and the netlist's box. -/
structure Tx (w : World) (T R q : Nat) (t : List UInt8) (v : Value) (W : World) : Prop where
  bx : Boxed W T 31 v
  own : W.ownsRow w.heap.size 5 1 v t.length (bys t)
  r0 : Boxed W R 31 (.slice none 0 0)
  r1 : Boxed W (R + 1) 32 (.int .i64 0)
  bn : Boxed W (T + 1) 78 (.pointer (some ⟨q, 0, none⟩))
  low : Below w.heap.size w W
theorem Tx.alloc {w W : World} {T R q : Nat} {t : List UInt8} {v : Value} (h : Tx w T R q t v W) (o : Obj) : Tx w T R q t v (W.alloc o) :=
  ⟨h.bx.alloc o, h.own.alloc o, h.r0.alloc o, h.r1.alloc o, h.bn.alloc o, h.low.alloc h.low.size o⟩
/-- Behind an append and its store. -/
theorem Tx.app {w W w1 : World} {T R q : Nat} {t t' : List UInt8} {v v' : Value} (h : Tx w T R q t v W) (hR : w.heap.size ≤ R) (hT : R + 1 < T) (hown : w1.ownsRow w.heap.size 5 1 v' t'.length (bys t')) (hg : W.grownBy w1 v.ownBlock) :
    Boxed w1 T 31 v ∧ Tx w T R q t' v' (w1.setCell ⟨T, 0, none⟩ v') ∧ KeepsOthers W (w1.setCell ⟨T, 0, none⟩ v') ∧ KpN w.heap.size (T + 1) W (w1.setCell ⟨T, 0, none⟩ v') := by
  have hb : Boxed w1 T 31 v := h.bx.kept hg (h.bx.not_row (by decide) h.own)
  have hbn : Boxed (w1.setCell ⟨T, 0, none⟩ v') (T + 1) 78 (.pointer (some ⟨q, 0, none⟩)) := (h.bn.kept hg (h.bn.not_row (by decide) h.own)).kept (grownBy_setCell' w1 T v') (by simp)
  have hlow1 : Below w.heap.size W w1 := (Below.refl _ W).grown hg h.low.size (fun k e => own_ge h.own k e)
  have hset : Below w.heap.size W (w1.setCell ⟨T, 0, none⟩ v') := hlow1.setCell (p := ⟨T, 0, none⟩) (by show w.heap.size ≤ T; omega) v'
  refine ⟨hb, ⟨hb.set v', hown.kept (grownBy_setCell' w1 T v') (.inr (hb.not_row (by decide) hown).symm), (h.r0.kept hg (h.r0.not_row (by decide) h.own)).kept (grownBy_setCell' w1 T v') (by simp; omega), (h.r1.kept hg (h.r1.not_row (by decide) h.own)).kept (grownBy_setCell' w1 T v') (by simp; omega), hbn, h.low.trans hset⟩, ?_, hset, fun u hu => ?_⟩
  · refine (KeepsOthers.of_grownBy hg fun j o ej hj => ?_).trans (KeepsOthers.setCell _ _ _)
    rcases h.own.2 with ⟨rfl, _⟩ | ⟨g, cap, cur, rfl, _, hgb, _⟩
    · simp [Value.ownBlock] at ej
    · obtain rfl : g = j := by simpa [Value.ownBlock] using ej
      rw [hgb] at hj; cases hj; rfl
  · rw [h.bn.cell] at hu
    cases hu
    exact hbn.cell
theorem boxed_turn {X Y : World} {row : Option Nat} {B T : Nat} {v : Value} (h : Boxed X B T v) (hg : X.grownBy Y row) (hr : ∀ r, row = some r → ∃ o : Obj, X.heap[r]? = some o ∧ o.isCells = false) : Boxed Y B T v :=
  h.kept hg (fun e => by
    obtain ⟨o, ho, hc⟩ := hr B e.symm
    rw [show X.heap[B]? = _ from h] at ho
    cases ho; cases hc)
theorem Tx.turn {w X Y : World} {T R q : Nat} {t : List UInt8} {v : Value} {row : Option Nat} (h : Tx w T R q t v X) (hg : X.grownBy Y row) (hr : ∀ r, row = some r → w.heap.size ≤ r ∧ ∃ o : Obj, X.heap[r]? = some o ∧ o.isCells = false) : Tx w T R q t v Y := by
  have hr2 := fun r e => (hr r e).2
  refine ⟨boxed_turn h.bx hg hr2, h.own.kept hg ?_, boxed_turn h.r0 hg hr2, boxed_turn h.r1 hg hr2, boxed_turn h.bn hg hr2, h.low.grown hg h.low.size (fun k e => (hr k e).1)⟩
  rcases h.own.2 with ⟨rfl, _⟩ | ⟨g, cap, cur, rfl, _, hgb, _⟩
  · exact .inl rfl
  · refine .inr fun e' => ?_
    obtain ⟨o, ho, hc⟩ := hr2 g (by simpa [Value.ownBlock] using e'.symm)
    rw [hgb] at ho; cases ho; cases hc
theorem news1t (w : World) (p : Addr) (b v : Value) (T : Nat) : ∀ (j : Nat) (u : Value), [v][j]? = some u → ((w.setCell p b).alloc (.cells #[v] T)).cell? ((⟨w.heap.size, 0, none⟩ : Addr).add j) = some u := fun j u h => by
  have h1 := news1 (w.setCell p b) v T j u h
  rw [show (w.setCell p b).heap.size = w.heap.size by simp [World.setCell]] at h1
  exact h1
theorem kpN_alloc {n₀ Bn : Nat} {W : World} (h : n₀ ≤ W.heap.size) (o : Obj) : KpN n₀ Bn W (W.alloc o) := ⟨(Below.refl n₀ W).alloc h o, fun v hv => cell_alloc_m o hv⟩
/-- What All tells. -/
def AllR (w w' : World) (ck : Int) (L : List Ln) (va : Value) (c : Int) : Prop :=
  (ck ≠ 0 ∧ va = .slice none 0 0 ∧ c = ck) ∨ (ck = 0 ∧ sizeL L ≤ 16777216 ∧ c = 0 ∧ w'.ownsRow w.heap.size 5 1 va (textT L).length (bys (textT L))) ∨ (ck = 0 ∧ 16777216 < sizeL L ∧ va = .slice none 0 0 ∧ c = 3)
set_option maxHeartbeats 4000000 in
theorem All_any {w : World} {q : NPl} {N : Nt} {rest : List Int} (h : NetIs w q N) (hg : Good N rest) (hm : N.g.nodes.length ≤ 190000) (hi : N.ins.length ≤ 10000) (hr : N.regs.length ≤ 10000) (ho : N.outs.length ≤ 10000) (hok : EmOk N) (ht : PW w) (L : List Ln) (hL : L.map (·.1) = linesL N) (hLn : L.length ≤ 1000000) :
    Calls Tryd.prog 34 #[.pointer (some ⟨q.b, 0, none⟩)] w fun e w' => ∃ va c, e = .returned (.tuple #[va, .int .i64 c]) ∧ AllR w w' (ckV rest) L va c ∧ Below w.heap.size w w' := by
  have hckF := Lib.hid (fun (W : World) (hb : Below w.heap.size w W) => Check_any (h.below hb) hg hm hi hr ho)
  have hlin := Lib.hid (fun W => lines_any (some ⟨q.b, 0, none⟩) W)
  generalize ckV rest = ck at *
  obtain ⟨i0, hin, hz0, hz1, hz2⟩ := info_parts info_u8t
  obtain ⟨w1, hw1⟩ : ∃ w1, w1 = (w.alloc (.cells #[.slice none 0 0] 31)).alloc (.cells #[.int .i64 0] 32) := ⟨_, rfl⟩
  have hB1 : Below w.heap.size w w1 := by rw [hw1]; exact ((Below.refl _ w).alloc (Nat.le_refl _) _).alloc (by simp) _
  have hR0 : Boxed w1 w.heap.size 31 (.slice none 0 0) := by rw [hw1]; exact (Boxed.new w _ _).alloc _
  have hR1 : Boxed w1 (w.heap.size + 1) 32 (.int .i64 0) := by
    rw [hw1]
    have := Boxed.new (w.alloc (.cells #[.slice none 0 0] 31)) 32 (.int .i64 0)
    rw [World.size_alloc] at this
    exact this
  have hsz1 : w1.heap.size = w.heap.size + 2 := by rw [hw1]; simp
  have hck := Lib.hid (hckF.out w1 hB1)
  have hbx := Lib.hid (fun W (hb : Below w1.heap.size w1 W) => (⟨(hb.block _ (by omega)).trans hR0, (hb.block _ (by omega)).trans hR1, nextw hB1 hb⟩ : Boxed W w.heap.size 31 (.slice none 0 0) ∧ Boxed W (w.heap.size + 1) 32 (.int .i64 0) ∧ Below w.heap.size w W))
  rw [hw1] at hck hbx
  by_cases hz : ck = 0
  · subst hz
    have hst := Lib.hid (fun (w1 : World) (Bn : Nat) (hN : BNk w w1 Bn q) => lines1_in h hok ht hN L hL 4 (by omega))
    clear h hg hm hi hr ho hok ht hL hckF
    refine (callsIn_wide (n := 5)).1 ?_
    refine callsIn_of_wp_marks Tryd.func34 rfl trivial ?_ rfl
    simp only [Tryd.ntmps34, List.size_toArray, List.length_cons, List.length_nil, Nat.reduceAdd, Nat.reduceSub, Array.replicate_succ, Array.replicate_zero, List.push_toArray, List.append_toArray, List.nil_append, List.cons_append]
    gi_wp2_with (first
      | (refine ⟨trivial, ?_⟩; gi_at_call 71; refine (callsIn_wide.2 hck.out).mono ?_; rintro e w2 ⟨rfl, hb2⟩; have hb2 := Lib.hid hb2)
      | (refine ⟨trivial, ?_⟩; gi_at_call 72; refine (callsIn_wide.2 (hlin.out _)).mono ?_; rintro e w3 ⟨rfl, rfl⟩))
    have hb2' : Below w1.heap.size w1 w2 := by rw [hw1]; exact hb2.out
    have hBw2 : Below w.heap.size w w2 := nextw hB1 hb2'
    have hs2 : w.heap.size + 2 ≤ w2.heap.size := by have := hb2'.size; omega
    have hR0 : Boxed w2 w.heap.size 31 (.slice none 0 0) := (hb2'.block _ (by omega)).trans hR0
    have hR1 : Boxed w2 (w.heap.size + 1) 32 (.int .i64 0) := (hb2'.block _ (by omega)).trans hR1
    have hTL : Tx w w2.heap.size w.heap.size q.b [] (.slice none 0 0) ((w2.alloc (.cells #[.slice none 0 0] 31)).alloc (.cells #[.pointer (some ⟨q.b, 0, none⟩)] 78)) := by
      refine ⟨(Boxed.new w2 _ _).alloc _, ⟨rfl, .inl ⟨rfl, rfl⟩⟩, (hR0.alloc _).alloc _, (hR1.alloc _).alloc _, ?_, (hBw2.alloc hBw2.size _).alloc (hBw2.alloc hBw2.size _).size _⟩
      have := Boxed.new (w2.alloc (.cells #[.slice none 0 0] 31)) 78 (.pointer (some ⟨q.b, 0, none⟩))
      rw [World.size_alloc] at this
      exact this
    have hsL : w.heap.size ≤ ((w2.alloc (.cells #[.slice none 0 0] 31)).alloc (.cells #[.pointer (some ⟨q.b, 0, none⟩)] 78)).heap.size := hTL.low.size
    clear hck hlin hb2 hb2' hw1 hB1 hsz1
    refine wpIn_rangeFunc_ownF rfl (by omega) (gf := 112) (lb := #[.pointer (some ⟨w2.heap.size + 1, 0, none⟩)]) rfl trivial (enters_of Tryd.func112 (by kernel_rfl) rfl)
      (hst.out _ (w2.heap.size + 1) ⟨hTL.low, by simp, hTL.bn.cell⟩) kpN_t (kpN_b (by simp; omega)) (Below.refl _ _) (fun _ => rfl)
      (fun pre W => (∃ v, Tx w w2.heap.size w.heap.size q.b (textT pre) v W) ∧ sizeL pre ≤ 16777216)
      (fun c pre W => (c = .ret ∧ 16777216 < sizeL pre) ∧ Boxed W w.heap.size 31 (.slice none 0 0) ∧ Boxed W (w.heap.size + 1) 32 (.int .i64 3) ∧ Below w.heap.size w W)
      (fun s A B row hs hg hr => ⟨⟨hs.1.choose, hs.1.choose_spec.turn hg (fun r e => ⟨Nat.le_trans hsL (hr r e).1, (hr r e).2⟩)⟩, hs.2⟩)
      (fun c s A B row hs hg hr => ⟨hs.1, boxed_turn hs.2.1 hg (fun r e => (hr r e).2), boxed_turn hs.2.2.1 hg (fun r e => (hr r e).2), hs.2.2.2.grown hg hs.2.2.2.size (fun k e => Nat.le_trans hsL (hr k e).1)⟩)
      ⟨⟨_, hTL⟩, by simp [sizeL]⟩
      (fun x => { tmps := #[.pointer (some ⟨q.b, 0, none⟩), undef, .pointer (some ⟨w.heap.size, 0, none⟩), .pointer (some ⟨w.heap.size + 1, 0, none⟩), .int .i64 0, .pointer (some ⟨w2.heap.size, 0, none⟩), .string x.1, .pointer (some ⟨q.b, 0, none⟩), .int .i64 0, .int .i64 0, .bool false, undef, .pointer (some ⟨q.b, 0, none⟩), .func (.func 112) #[] #[.pointer (some ⟨w2.heap.size + 1, 0, none⟩)], .string x.1, undef, undef, undef, undef, undef, undef, undef, undef, undef, undef], defers := [] }) ?assign ?body ?done ?stop
    case assign =>
      intro l x W K hK
      gi_wp2
      exact hK
    case body =>
      rintro l pre x W ⟨⟨v, hT⟩, hp⟩ hlen
      have hx := x.2
      have hsn := Lib.hid (textT_snoc pre x)
      have hsl := Lib.hid (textT_len (pre ++ [x]))
      have hl0 : (textT pre).length ≤ 16777216 := by rw [textT_len]; exact hp
      generalize textT pre = t at *
      obtain ⟨t7, ht7⟩ : ∃ t7, t7 = t ++ x.1.data.toList := ⟨_, rfl⟩
      obtain ⟨t8, ht8⟩ : ∃ t8, t8 = t7 ++ [10] := ⟨_, rfl⟩
      have l7 : t7.length = t.length + x.1.size := by rw [ht7, List.length_append]; rfl
      have l8 : t8.length = t7.length + 1 := by rw [ht8, List.length_append]; rfl
      have hE7 : Hid (bys t ++ Lib.strCells x.1 = bys t7) := Lib.hid (by rw [ht7, bys_app, strCells_bys])
      have hE8 : Hid (bys t7 ++ [.int .u8 10] = bys t8) := Lib.hid (by rw [ht8, bys_app]; rfl)
      have hE9 : Hid (textT (pre ++ [x]) = t8) := Lib.hid (by rw [hsn.out, ht8, ht7])
      have hS1 : sizeL (pre ++ [x]) = t8.length := by rw [← hsl.out, hE9.out]
      have l9 : t7.length ≤ 17777216 := by omega
      have l10 : t8.length ≤ 17777217 := by omega
      have m7 := Lib.hid l7
      have m8 := Lib.hid l8
      have mS := Lib.hid hS1
      clear l7 l8 hS1
      clear hsn hsl ht7 ht8
      obtain ⟨va, vc, rfl⟩ := own_slice hT.own
      have hT := Lib.hid hT
      have hc0 := hT.out.bx.cell
      have hf0 := hT.out.bx.frozen
      generalize x.1 = xs at *
      by_cases hgt : 16777216 < t8.length
      · have hd : decide ((16777216 : Int) < (t8.length : Int)) = true := by simp; omega
        gi_wp2_with (first
        | (gi_at_builtin; refine wpListIn_append_str _ rfl _ _ 31 9 rfl w.heap.size 5 i0 Tryd.underlying31 Tryd.underlying9 hin hz0 hz1 hz2 _ _ _ rfl hT.out.own xs rfl (by unfold maxLen; omega) (by omega) hT.out.low.size ?_; intro v7 w7 hown7 hg7; rw [hE7.out, ← m7.out] at hown7; obtain ⟨hx7, hT7, hk7, hp7⟩ := hT.out.app (Nat.le_refl _) (by omega) hown7 hg7; obtain ⟨a7, c7, rfl⟩ := own_slice hown7; have d7 := hx7.cell; have f7 := hx7.frozen; have hT7 := Lib.hid hT7; have e7 := hT7.out.bx.cell; have g7 := hT7.out.bx.frozen; have hk7 := Lib.hid hk7; have hp7 := Lib.hid hp7; clear hown7 hg7 hx7)
        | (gi_at_builtin; refine wpListIn_append_own _ rfl _ _ 31 rfl w.heap.size 5 i0 (.int .u8 0) 1 1 Tryd.underlying31 hin hz0 hz1 hz2 rfl (by decide) _ _ _ rfl (hT7.out.alloc _).own ⟨w7.heap.size, 0, none⟩ 1 1 [.int .u8 10] rfl rfl (news1t _ _ _ _ _) (by simp [Value.oneCell']) (by unfold maxLen; omega) (by omega) ((hT7.out.alloc _).low.size) ?_; intro v8 w8 hown8 hg8 _; rw [hE8.out, ← m8.out] at hown8; obtain ⟨hx8, hT8, hk8, hp8⟩ := (hT7.out.alloc (.cells #[.int .u8 10] 5)).app (Nat.le_refl _) (by omega) hown8 hg8; obtain ⟨a8, c8, rfl⟩ := own_slice hown8; have d8 := hx8.cell; have f8 := hx8.frozen; have hT8 := Lib.hid hT8; have e8 := hT8.out.bx.cell; have r80 := hT8.out.r0.cell; have r81 := hT8.out.r1.cell; have r82 := hT8.out.r0.frozen; have r83 := hT8.out.r1.frozen; have hk8 := Lib.hid hk8; have hp8 := Lib.hid hp8; clear hown8 hg8 hx8))
        have hkk := (hk7.out.trans (KeepsOthers.alloc _ _)).trans hk8.out
        refine ⟨(hkk.trans (KeepsOthers.setCell _ _ _)).trans (KeepsOthers.setCell _ _ _), ⟨rfl, by rw [mS.out]; exact hgt⟩, (hT8.out.r0.set _).other (by omega) _, (hT8.out.r1.other (by omega) _).set _, (hT8.out.low.setCell (p := ⟨w.heap.size, 0, none⟩) (Nat.le_refl _) _).setCell (p := ⟨w.heap.size + 1, 0, none⟩) (by show w.heap.size ≤ w.heap.size + 1; omega) _⟩
      · have hd : decide ((16777216 : Int) < (t8.length : Int)) = false := by simp; omega
        gi_wp2_with (first
        | (gi_at_builtin; refine wpListIn_append_str _ rfl _ _ 31 9 rfl w.heap.size 5 i0 Tryd.underlying31 Tryd.underlying9 hin hz0 hz1 hz2 _ _ _ rfl hT.out.own xs rfl (by unfold maxLen; omega) (by omega) hT.out.low.size ?_; intro v7 w7 hown7 hg7; rw [hE7.out, ← m7.out] at hown7; obtain ⟨hx7, hT7, hk7, hp7⟩ := hT.out.app (Nat.le_refl _) (by omega) hown7 hg7; obtain ⟨a7, c7, rfl⟩ := own_slice hown7; have d7 := hx7.cell; have f7 := hx7.frozen; have hT7 := Lib.hid hT7; have e7 := hT7.out.bx.cell; have g7 := hT7.out.bx.frozen; have hk7 := Lib.hid hk7; have hp7 := Lib.hid hp7; clear hown7 hg7 hx7)
        | (gi_at_builtin; refine wpListIn_append_own _ rfl _ _ 31 rfl w.heap.size 5 i0 (.int .u8 0) 1 1 Tryd.underlying31 hin hz0 hz1 hz2 rfl (by decide) _ _ _ rfl (hT7.out.alloc _).own ⟨w7.heap.size, 0, none⟩ 1 1 [.int .u8 10] rfl rfl (news1t _ _ _ _ _) (by simp [Value.oneCell']) (by unfold maxLen; omega) (by omega) ((hT7.out.alloc _).low.size) ?_; intro v8 w8 hown8 hg8 _; rw [hE8.out, ← m8.out] at hown8; obtain ⟨hx8, hT8, hk8, hp8⟩ := (hT7.out.alloc (.cells #[.int .u8 10] 5)).app (Nat.le_refl _) (by omega) hown8 hg8; obtain ⟨a8, c8, rfl⟩ := own_slice hown8; have d8 := hx8.cell; have f8 := hx8.frozen; have hT8 := Lib.hid hT8; have e8 := hT8.out.bx.cell; have r80 := hT8.out.r0.cell; have r81 := hT8.out.r1.cell; have r82 := hT8.out.r0.frozen; have r83 := hT8.out.r1.frozen; have hk8 := Lib.hid hk8; have hp8 := Lib.hid hp8; clear hown8 hg8 hx8))
        refine ⟨((hk7.out.trans (KeepsOthers.alloc _ _)).trans hk8.out), kpN_t (kpN_t hp7.out (kpN_alloc hT7.out.low.size _)) hp8.out, ⟨_, by rw [hE9.out]; exact hT8.out⟩, by rw [mS.out]; omega⟩
    case done =>
      rintro D ys W hD rfl ⟨⟨v, hT⟩, hp⟩ hK
      obtain ⟨va, vc, rfl⟩ := own_slice hT.own
      have c5 := hT.bx.cell
      have r80 := hT.r0.cell
      have r81 := hT.r1.cell
      have r82 := hT.r0.frozen
      have r83 := hT.r1.frozen
      have hT := Lib.hid hT
      have hD2 : w.heap.size ≤ D := Nat.le_trans hsL hD
      gi_wp2
      have hK1 := (KeepsOthers.setCell W ⟨w.heap.size, 0, none⟩ (.slice va (textT ys).length vc)).same D _ hK rfl
      have hK2 := (KeepsOthers.setCell _ ⟨w.heap.size + 1, 0, none⟩ (.int .i64 0)).same D _ hK1 rfl
      refine ⟨by simp, .inl ⟨_, _, rfl, run_takeDeferred hK2, ?_⟩⟩
      have x0 := (boxed_turn ((hT.out.r0.set (.slice va (textT ys).length vc)).other (B' := w.heap.size + 1) (by omega) (.int .i64 0)) (grownBy_putObj' _ D (.deferred none)) (fun r e => by cases e; exact ⟨_, hK2, rfl⟩)).cell
      have x1 := (boxed_turn ((hT.out.r1.other (B' := w.heap.size) (by omega) (.slice va (textT ys).length vc)).set (.int .i64 0)) (grownBy_putObj' _ D (.deferred none)) (fun r e => by cases e; exact ⟨_, hK2, rfl⟩)).cell
      have hr1 := hT.out.r0.set (.slice va (textT ys).length vc)
      have hown1 := hT.out.own.kept (grownBy_setCell' W w.heap.size (.slice va (textT ys).length vc)) (.inr (hT.out.r0.not_row (by decide) hT.out.own).symm)
      have hown2 := hown1.kept (grownBy_setCell' _ (w.heap.size + 1) (.int .i64 0)) (.inr (hT.out.r1.not_row (by decide) hT.out.own).symm)
      have hown3 := ownsRow_putObj hown2 (.deferred none) hK2 rfl
      refine ⟨.tuple #[.slice va (textT ys).length vc, .int .i64 0], ?_, ⟨_, _, rfl, .inr (.inl ⟨rfl, hp, rfl, hown3⟩), ((hT.out.low.setCell (p := ⟨w.heap.size, 0, none⟩) (Nat.le_refl _) _).setCell (p := ⟨w.heap.size + 1, 0, none⟩) (by show w.heap.size ≤ w.heap.size + 1; omega) _).trans (belowK_b (w := w) (Nat.le_refl _) _ D _ _ hD2 hK2 rfl rfl)⟩⟩
      simp [results, Tryd.f34, go_sem, x0, x1]
    case stop =>
      rintro D c pre W hD hpre ⟨⟨rfl, hgt⟩, h0, h1, hB⟩ hK
      have hD2 : w.heap.size ≤ D := Nat.le_trans hsL hD
      gi_wp2
      refine ⟨by simp, .inl ⟨_, _, rfl, run_takeDeferred hK, ?_⟩⟩
      have x0 := (boxed_turn h0 (grownBy_putObj' _ D (.deferred none)) (fun r e => by cases e; exact ⟨_, hK, rfl⟩)).cell
      have x1 := (boxed_turn h1 (grownBy_putObj' _ D (.deferred none)) (fun r e => by cases e; exact ⟨_, hK, rfl⟩)).cell
      refine ⟨.tuple #[.slice none 0 0, .int .i64 3], ?_, ⟨_, _, rfl, .inr (.inr ⟨rfl, Nat.lt_of_lt_of_le hgt (sizeL_prefix hpre), rfl, rfl⟩), hB.trans (belowK_b (w := w) (Nat.le_refl _) _ D _ _ hD2 hK rfl rfl)⟩⟩
      simp [results, Tryd.f34, go_sem, x0, x1]
  · clear hlin h hg hm hi hr ho hok ht hL hckF hR0 hR1
    go_enter Tryd.func34, Tryd.ntmps34
    go_wp2_with (go_at_call 71; (with_reducible refine hck.out.mono ?_); rintro e w2 ⟨rfl, hb2⟩; obtain ⟨y0, y1, hb3⟩ := hbx.out _ hb2; have r0 := y0.cell; have r1 := y1.cell; have r2 := y0.frozen; have r3 := y1.frozen; have y0 := Lib.hid y0; have y1 := Lib.hid y1; have hb3 := Lib.hid hb3; clear hb2)
    have z0 := ((y0.out.set (.slice none 0 0)).other (B' := w.heap.size + 1) (by omega) (.int .i64 ck)).cell
    have z1 := ((y1.out.other (B' := w.heap.size) (by omega) (.slice none 0 0)).set (.int .i64 ck)).cell
    refine bodyPost_ret (v := .tuple #[.slice none 0 0, .int .i64 ck]) (by simp [results, Tryd.f34, go_sem, z0, z1]) rfl ⟨_, _, rfl, .inl ⟨hz, rfl, rfl⟩, (hb3.out.setCell (p := ⟨w.heap.size, 0, none⟩) (Nat.le_refl _) _).setCell (p := ⟨w.heap.size + 1, 0, none⟩) (by show w.heap.size ≤ w.heap.size + 1; omega) _⟩
end Go.Proofs.YtnhpjacodhdpeaaDoor
end

section
namespace Go.Proofs.YtnhpjacodhdpeaaDoor
open Go.RowKit Go.Maps Bits
set_option maxRecDepth 100000

theorem info_bus : (Tryd.prog.info? 184).map (fun i => (i.zero, i.size, i.bytes)) = some (some (.agg #[.string ByteArray.empty, .slice none 0 0]), 2, 40) := by kernel_rfl
theorem wide_le {n : Nat} (h : wide (n : Int) = true) : n ≤ 64 := by have := wide_iff.1 h; omega

set_option maxHeartbeats 1000000 in
theorem AddOut_any {w : World} {q : NPl} {N : Nt} (h : NetIs w q N) (hW : Wf N.g) (ho : N.outs.length ≤ 10000) (s : ByteArray) {a : Option Addr} {n c : Nat} {l : List Int} (hs : Row .u32 w a n l) (hl : ∀ x ∈ l, IsLit x) :
    Calls Tryd.prog 84 #[.pointer (some ⟨q.b, 0, none⟩), .string s, .slice a n c] w fun e w' => e = .returned (.int .i64 (addOut N s l).2) ∧ ∃ q', NStep q w q' w' (addOut N s l).1 := by
  have hst := Lib.hid (nstands_any h hW.pos)
  obtain ⟨ia, ic, ra, rc, oa, oc, -, -, ev, c0, -, -, -, c4, fz⟩ := h.cells
  have hlb := h.lt
  have hmn := Lib.hid (fun w => MayName_any s w)
  have hwd := Lib.hid (fun w => mayWide_any n w)
  have hlen := hs.len
  have hhas := Lib.hid (fun w2 (hb2 : Below w.heap.size w w2) => has_any (h.below hb2) hW.pos (c := c) (hs.step hb2) hl)
  have hfin := Lib.hid (fun w2 (hb2 : Below w.heap.size w w2) => NStep.of_below h hb2)
  have hat := Lib.hid (fun w2 (hb2 : Below w.heap.size w w2) => at_any (a := oa) (n := N.outs.length) (c := oc) (by have := h.outs.below hb2; rw [ev] at this; exact this) rfl s)
  unfold addOut
  rw [hlen]
  cases hm : mayName s with
  | false =>
    rw [hm] at hmn
    simp only [Bool.false_and, if_neg (show ¬ (false = true) by simp)]
    clear h hs hhas hat hwd
    go_enter Tryd.func84, Tryd.ntmps84
    go_wp2_with (first
      | (go_at_call 108; (with_reducible refine hst.out.mono ?_); rintro e w2 ⟨rfl, rfl⟩)
      | (go_at_call 75; (with_reducible refine (hmn.out _).mono ?_); rintro e w2 ⟨rfl, hb2⟩))
    go_ret
    exact ⟨rfl, _, hfin.out _ hb2⟩
  | true =>
    rw [hm] at hmn
    cases hw : wide n with
    | false =>
      rw [hw] at hwd
      simp only [Bool.false_and, Bool.and_false, if_neg (show ¬ (false = true) by simp)]
      clear h hs hhas hat
      go_enter Tryd.func84, Tryd.ntmps84
      go_wp2_with (first
        | (go_at_call 108; (with_reducible refine hst.out.mono ?_); rintro e w2 ⟨rfl, rfl⟩)
        | (go_at_call 75; (with_reducible refine (hmn.out _).mono ?_); rintro e w2 ⟨rfl, hb2⟩)
        | (go_at_call 123; (with_reducible refine (hwd.out _).mono ?_); rintro e w3 ⟨rfl, rfl⟩))
      go_ret
      exact ⟨rfl, _, hfin.out _ hb2⟩
    | true =>
      rw [hw] at hwd
      have hn64 := wide_le hw
      cases hh : allHas N.g l with
      | false =>
        rw [hh] at hhas
        simp only [Bool.false_and, Bool.and_false, if_neg (show ¬ (false = true) by simp)]
        clear h hs hat
        go_enter Tryd.func84, Tryd.ntmps84
        go_wp2_with (first
          | (go_at_call 108; (with_reducible refine hst.out.mono ?_); rintro e w2 ⟨rfl, rfl⟩)
          | (go_at_call 75; (with_reducible refine (hmn.out _).mono ?_); rintro e w2 ⟨rfl, hb2⟩)
          | (go_at_call 123; (with_reducible refine (hwd.out _).mono ?_); rintro e w3 ⟨rfl, rfl⟩)
          | (go_at_call 130; (with_reducible refine (hhas.out _ hb2).mono ?_); rintro e w3 ⟨rfl, hb3⟩; have hb4 := nextw hb2 hb3))
        go_ret
        exact ⟨rfl, _, hfin.out _ hb4⟩
      | true =>
        rw [hh] at hhas
        simp only [Bool.true_and, if_true]
        cases he : atB N.outs s with
        | some j =>
          rw [he] at hat
          change Hid (∀ w2, Below w.heap.size w w2 → Calls _ _ _ _ fun e w' => e = .returned (.int .i64 (j : Int)) ∧ _) at hat
          have g0 : decide (0 ≤ (j : Int)) = true := by simp
          simp only [Option.isSome_some, if_true]
          clear h hs
          go_enter Tryd.func84, Tryd.ntmps84
          go_wp2_with (first
            | (go_at_call 108; (with_reducible refine hst.out.mono ?_); rintro e w2 ⟨rfl, rfl⟩)
            | (go_at_call 75; (with_reducible refine (hmn.out _).mono ?_); rintro e w2 ⟨rfl, hb2⟩)
            | (go_at_call 123; (with_reducible refine (hwd.out _).mono ?_); rintro e w3 ⟨rfl, rfl⟩)
            | (go_at_call 130; (with_reducible refine (hhas.out _ hb2).mono ?_); rintro e w3 ⟨rfl, hb3⟩; have hb4 := nextw hb2 hb3; have d4 := stepc hb4 hlb c4)
            | (go_at_call 124; (with_reducible refine (hat.out _ hb4).mono ?_); rintro e w5 ⟨rfl, hb5⟩; have hb6 := nextw hb4 hb5))
          go_ret
          exact ⟨rfl, _, hfin.out _ hb6⟩
        | none =>
          rw [he] at hat
          change Hid (∀ w2, Below w.heap.size w w2 → Calls _ _ _ _ fun e w' => e = .returned (.int .i64 (-1)) ∧ _) at hat
          simp only [Option.isSome_none, if_neg (show ¬ (false = true) by simp)]
          obtain ⟨K, hK⟩ := h.outs
          have hcl := Lib.hid (fun w2 (hb2 : Below w.heap.size w w2) => clone_lit (c := c) (hs.step hb2) (by omega))
          have hrow := Lib.hid (fun w2 (hb2 : Below w.heap.size w w2) => (show w2.ownsRow 0 184 2 (.slice oa N.outs.length oc) N.outs.length (bvCells K) by have := (hK.below hb2).own; rw [ev] at this; exact this))
          have hpush := Lib.hid (fun (wa w1 : World) (hb : Below w.heap.size w wa) (la : Option Addr) (lc : Nat) (hl : LRow wa la n lc l) (g cap : Nat) hown hg hat => out_push (w1 := w1) h hb hK (s := s) hl (g := g) (cap := cap) hown hg hat)
          rw [ev] at hpush
          have hne := netBox_far h (v := .slice oa N.outs.length oc) (.inr (.inr ev.symm))
          have f4 := fz 4
          obtain ⟨i0, hi, hz0, hz1, hz2⟩ := info_parts info_bus
          clear h hs hK fz hlen hl
          generalize N.outs.length = k at *
          go_enter Tryd.func84, Tryd.ntmps84
          go_upto_region 7 with (first
            | (go_at_call 108; (with_reducible refine hst.out.mono ?_); rintro e w2 ⟨rfl, rfl⟩)
            | (go_at_call 75; (with_reducible refine (hmn.out _).mono ?_); rintro e w2 ⟨rfl, hb2⟩)
            | (go_at_call 123; (with_reducible refine (hwd.out _).mono ?_); rintro e w3 ⟨rfl, rfl⟩)
            | (go_at_call 130; (with_reducible refine (hhas.out _ hb2).mono ?_); rintro e w3 ⟨rfl, hb3⟩; have hb4 := nextw hb2 hb3; have d4 := stepc hb4 hlb c4)
            | (go_at_call 124; (with_reducible refine (hat.out _ hb4).mono ?_); rintro e w5 ⟨rfl, hb5⟩; have hb6 := nextw hb4 hb5; have e4 := stepc hb6 hlb c4))
          have hb6 := Lib.hid hb6
          clear hb2 hb3 hb4 hb5 d4 hst hmn hwd hhas hat c4 c0
          go_region_law (first
            | (go_simp; go_at_call 125; (with_reducible refine (hcl.out _ hb6.out.drew).mono ?_); rintro e w6 ⟨a2, c2, rfl, hM⟩; have hb7 := nextw hb6.out.drew hM.below; have f5 := stepc (nextw ((Below.refl _ _).drew) hM.below) (by have := hb6.out.size; omega) e4; have ff5 := ((bcell hb7).2 q.b 4 hlb).trans f4; have hlr := Lib.hid hM.lrow; have hlb6 : q.b < w6.heap.size := Nat.lt_of_lt_of_le hlb hb7.size; have hb7 := Lib.hid hb7; clear hM)
            | (refine step_append_lies _ (by rfl) (.tmp 36) (.tmp 41) _ (by rfl) 0 184 i0 (.agg #[.string ByteArray.empty, .slice none 0 0]) 2 40 Tryd.underlying89 hi hz0 hz1 hz2 rfl (by decide) (.slice oa k oc) k (bvCells K) (by rfl) (hrow.out _ (hb7.out.alloc hb7.out.size _)) ⟨w6.heap.size, 0, none⟩ 1 1 [.string s, .slice a2 n c2] (by rfl) rfl (news_list _ _ _) (by simp [Value.oneCell']) (by decide) (by unfold maxLen; omega) (by omega) (by simp) _ rfl ?_; intro g1 cap1 w7 hown1 hgrow1 hat1 hlt1; obtain ⟨x0, x1⟩ := grow_box hgrow1 (b := q.b) (o := 4) (v := .slice oa k oc) (by go_simp) (by go_simp) hne))
          all_goals go_wp2
          all_goals go_ret
          all_goals
            obtain ⟨q', hq⟩ := hpush.out _ _ (hb7.out.alloc hb7.out.size _) _ _ (hlr.out.below ((Below.refl _ _).alloc (Nat.le_refl _) _)) _ _ hown1 hgrow1 hat1
            exact ⟨rfl, q', hq⟩

/-! ### AddIn -/
theorem Step.store {p p' : Pl} {w w' : World} {G' : Gr} (h : Step p w p' w' G') {g : Nat} {cur : Array Value} {fz : Nat × Nat} (hg : w.heap.size ≤ g) (ht : w'.heap[g]? = some (.cells cur 94 fz)) (o : Nat) (v : Value) : Step p w p' (w'.setCell ⟨g, o, none⟩ v) G' := by
  have hk : Kept (fun k => k = g) w' (w'.setCell ⟨g, o, none⟩ v) := ⟨rfl, rfl, rfl, by simp [World.setCell], fun k _ hn => Below.heap_setCell _ _ _ _ hn⟩
  refine ⟨h.is.beside hk (fun k e hp => by subst e; exact h.is.other ht (by decide) (by decide) (by decide) hp), ?_, h.b, h.new⟩
  exact ⟨h.kept.os, h.kept.tape, h.kept.output, by have := h.kept.size; simp [World.setCell]; omega, fun k hlt hn => by rw [Below.heap_setCell _ _ _ _ (show k ≠ g by omega)]; exact h.kept.block k hlt hn⟩
def nf (n i : Nat) : Int := 2 * ((n + i : Nat) : Int)
theorem newL_row (G : Gr) (k : Nat) : newL G k = row k (nf G.nodes.length) := rfl
/-- One input more, and its literal laid. -/
structure Fill (w : World) (q : NPl) (G : Gr) (g m j : Nat) (wr : World) : Prop where
  step : ∃ p', Step q.g w p' wr (inputsN G j)
  own : wr.ownsRow w.heap.size 94 1 (.slice (some ⟨g, 0, none⟩) m m) m ((fillF (nf G.nodes.length) m j).map (Value.int .u32))
theorem Fill.next {w wr w2 : World} {q : NPl} {G : Gr} {g m j : Nat} (h : Fill w q G g m j wr) {p p' : Pl} (h1 : Step q.g w p wr (inputsN G j)) (hS : Step p wr p' w2 (inputG (inputsN G j))) : Fill w q G g m (j + 1) (w2.setCell ⟨g, j, none⟩ (.int .u32 (2 * ((inputsN G j).nodes.length : Int)))) ∧ w2.cell? ⟨g, j, none⟩ = wr.cell? ⟨g, j, none⟩ ∧ w2.frozen? ⟨g, j, none⟩ = false := by
  have hb := own_beside h1.is h.own hS.kept (by decide) (by decide) (by decide)
  have hst := (hb.stored j (.int .u32 (nf G.nodes.length j))).1
  rw [fillK_set] at hst
  have e : 2 * ((inputsN G j).nodes.length : Int) = nf G.nodes.length j := by rw [inputsN_len]; rfl
  obtain ⟨c, hc⟩ := own_type hb (k := g) rfl
  have hg := own_ge h.own g rfl
  refine ⟨⟨⟨p', (h1.trans hS).store hg hc _ _⟩, by rw [e]; exact hst⟩, ?_, hb.frozenAt j⟩
  obtain ⟨c0, hc0⟩ := own_type h.own (k := g) rfl
  have := hS.kept.block g (Array.getElem?_eq_some_iff.1 hc0).1 (fun hp => h1.is.other hc0 (by decide) (by decide) (by decide) hp)
  unfold World.cell?
  simp only [this]
set_option maxHeartbeats 1000000 in
theorem AddIn_any {w : World} {q : NPl} {N : Nt} (h : NetIs w q N) (hW : Wf N.g) (hm : N.g.nodes.length ≤ 190000) (ho : N.ins.length ≤ 10000) (s : ByteArray) (kw : Int) :
    Calls Tryd.prog 80 #[.pointer (some ⟨q.b, 0, none⟩), .string s, .int .i64 kw] w fun e w' => ∃ (a2 : Option Addr) (c2 : Nat), e = .returned (.tuple #[.slice a2 (addIn N s kw).2.1.length c2, .int .i64 (addIn N s kw).2.2]) ∧ LRow w' a2 (addIn N s kw).2.1.length c2 (addIn N s kw).2.1 ∧ ∃ q', NStep q w q' w' (addIn N s kw).1 := by
  have hst := Lib.hid (nstands_any h hW.pos)
  obtain ⟨ia, ic, ra, rc, oa, oc, ev, -, -, c0, -, c2, -, -, fz⟩ := h.cells
  have hlb := h.lt
  have hmn := Lib.hid (fun w => MayName_any s w)
  have hwd := Lib.hid (fun w => mayWide_any kw w)
  have hfin := Lib.hid (fun w2 (hb2 : Below w.heap.size w w2) => NStep.of_below h hb2)
  have hat := Lib.hid (fun w2 (hb2 : Below w.heap.size w w2) => at_any (a := ia) (n := N.ins.length) (c := ic) (by have := h.ins.below hb2; rw [ev] at this; exact this) rfl s)
  have hnil : ∀ w : World, LRow w none 0 0 [] := fun w => ⟨rfl, own_nil _ _ _⟩
  unfold addIn
  cases hmy : mayName s with
  | false =>
    rw [hmy] at hmn
    simp only [Bool.false_and, if_neg (show ¬ (false = true) by simp)]
    clear h hat hwd
    go_enter Tryd.func80, Tryd.ntmps80
    go_wp2_with (first
      | (go_at_call 108; (with_reducible refine hst.out.mono ?_); rintro e w2 ⟨rfl, rfl⟩)
      | (go_at_call 75; (with_reducible refine (hmn.out _).mono ?_); rintro e w2 ⟨rfl, hb2⟩))
    go_ret2
    exact ⟨none, 0, rfl, hnil _, _, hfin.out _ hb2⟩
  | true =>
    rw [hmy] at hmn
    cases hw : wide kw with
    | false =>
      rw [hw] at hwd
      simp only [Bool.and_false, if_neg (show ¬ (false = true) by simp)]
      clear h hat
      go_enter Tryd.func80, Tryd.ntmps80
      go_wp2_with (first
        | (go_at_call 108; (with_reducible refine hst.out.mono ?_); rintro e w2 ⟨rfl, rfl⟩)
        | (go_at_call 75; (with_reducible refine (hmn.out _).mono ?_); rintro e w2 ⟨rfl, hb2⟩)
        | (go_at_call 123; (with_reducible refine (hwd.out _).mono ?_); rintro e w3 ⟨rfl, rfl⟩))
      go_ret2
      exact ⟨none, 0, rfl, hnil _, _, hfin.out _ hb2⟩
    | true =>
      rw [hw] at hwd
      simp only [Bool.true_and, if_true]
      cases he : atB N.ins s with
      | some j =>
        rw [he] at hat
        change Hid (∀ w2, Below w.heap.size w w2 → Calls _ _ _ _ fun e w' => e = .returned (.int .i64 (j : Int)) ∧ _) at hat
        have g0 : decide (0 ≤ (j : Int)) = true := by simp
        simp only [Option.isSome_some, if_true]
        clear h
        go_enter Tryd.func80, Tryd.ntmps80
        go_wp2_with (first
          | (go_at_call 108; (with_reducible refine hst.out.mono ?_); rintro e w2 ⟨rfl, rfl⟩)
          | (go_at_call 75; (with_reducible refine (hmn.out _).mono ?_); rintro e w2 ⟨rfl, hb2⟩; have d2 := stepc hb2 hlb c2)
          | (go_at_call 123; (with_reducible refine (hwd.out _).mono ?_); rintro e w3 ⟨rfl, rfl⟩)
          | (go_at_call 124; (with_reducible refine (hat.out _ hb2).mono ?_); rintro e w5 ⟨rfl, hb5⟩; have hb6 := nextw hb2 hb5))
        go_ret2
        exact ⟨none, 0, rfl, hnil _, _, hfin.out _ hb6⟩
      | none =>
        rw [he] at hat
        change Hid (∀ w2, Below w.heap.size w w2 → Calls _ _ _ _ fun e w' => e = .returned (.int .i64 (-1)) ∧ _) at hat
        simp only [Option.isSome_none, if_neg (show ¬ (false = true) by simp)]
        obtain ⟨hk1, hk2⟩ := wide_iff.1 hw
        obtain ⟨m, rfl⟩ := Int.eq_ofNat_of_zero_le (show 0 ≤ kw by omega)
        rw [newL_len, show ((m : Int)).toNat = m by omega]
        have hnd := Lib.hid (fun w2 (hb2 : Below w.heap.size w w2) => nodes_any (h.g.below hb2).lay hW.pos)
        have hs0 := Lib.hid (fun w2 (hb2 : Below w.heap.size w w2) => Step.of_below h.g hb2)
        have hin := Lib.hid (fun (p' : Pl) (w2 : World) (j : Nat) (hj : j ≤ 64) (hS : Step q.g w p' w2 (inputsN N.g j)) => Input_any hS.is (inputsN_wf hW j) (by rw [inputsN_len]; omega))
        have hgb := Lib.hid (fun (p' : Pl) (w2 : World) (j : Nat) (hS : Step q.g w p' w2 (inputsN N.g j)) => (show p'.b = q.g.b ∧ NStep q w { q with g := p' } w2 { N with g := inputsN N.g j } from ⟨hS.b, h.grow hS⟩))
        obtain ⟨i0, hi, hz0, hz1, hz2⟩ := info_parts info_bus
        obtain ⟨i1, hi1, hy0, hy1, hy2⟩ := info_parts info_lit
        have hg1 : decide (278528 < (N.g.nodes.length : Int) - 1 + m) = false := by simp; omega
        have hm64 : m ≤ 64 := by omega
        have hm1 : 1 ≤ m := by omega
        have HI := Lib.hid (fillK_zero .u32 (nf N.g.nodes.length) m)
        have hNL := Lib.hid (newL_row N.g m)
        clear h hW hk1 hk2 fz
        go_enter Tryd.func80, Tryd.ntmps80
        go_wp2_with (first
          | (go_at_call 108; (with_reducible refine hst.out.mono ?_); rintro e w2 ⟨rfl, rfl⟩)
          | (go_at_call 75; (with_reducible refine (hmn.out _).mono ?_); rintro e w2 ⟨rfl, hb2⟩; have d2 := stepc hb2 hlb c2)
          | (go_at_call 123; (with_reducible refine (hwd.out _).mono ?_); rintro e w3 ⟨rfl, rfl⟩)
          | (go_at_call 124; (with_reducible refine (hat.out _ hb2).mono ?_); rintro e w5 ⟨rfl, hb5⟩; have hb6 := nextw hb2 hb5; have d0 := stepc hb6 hlb c0)
          | (go_at_call 116; (with_reducible refine (hnd.out _ hb6).mono ?_); rintro e w6 ⟨rfl, rfl⟩)
          | (at_make; refine wpList_make_full _ rfl _ _ 150 rfl w5.heap.size 94 i1 (.int .u32 0) 1 Tryd.underlying150 hi1 hy0 hy1 .i64 .i64 m m m rfl rfl rfl rfl (by rw [hy2]; omega) (by unfold maxLen; omega) (Nat.le_refl _) ?_; intro w7 hown hg))
        rw [HI.out] at hown
        have hb7 := (hb6).grown hg hb6.size (fun _ h => by cases h)
        have hgz := hb6.size
        generalize w5.heap.size = g at *
        have hF : Hid (Fill w q N.g g m 0 w7) := Lib.hid ⟨⟨_, hs0.out _ hb7⟩, own_base hown hgz⟩
        clear hst hmn hwd hat hnd hs0 HI hown hg hb7 hb6 hb5 hb2 d0 d2 hg1
        go_loopw [43] (fun i wr => ∃ j : Nat, j ≤ m ∧ i = .int .i64 j ∧ Hid (Fill w q N.g g m j wr)) (fun i _ => m - (intOf i).toNat)
        case atStart => exact ⟨0, Nat.zero_le _, rfl, hF⟩
        case round =>
          clear hF
          obtain ⟨j, hj, rfl, hF⟩ := hrel
          obtain ⟨p, hS⟩ := hF.out.step
          obtain ⟨hpb, hNS⟩ := hgb.out _ _ _ hS
          by_cases hlt : j < m
          · have hin1 := Lib.hid (hin.out _ _ j (by omega) hS)
            rw [hpb] at hin1
            have hnx := Lib.hid (fun p' w2 (h2 : Step p wr p' w2 (inputG (inputsN N.g j))) => hF.out.next hS h2)
            have hsome := Lib.hid (own_some hF.out.own hlt)
            obtain ⟨-, -, -, -, -, -, -, -, -, d0, -⟩ := hNS.is.cells
            simp only [hpb] at d0
            have hfr := hF.out.own.frozenAt j
            generalize 2 * ((inputsN N.g j).nodes.length : Int) = x at *
            clear hS hNS hgb hin
            go_wp2_with (go_at_call 38; (with_reducible refine hin1.out.mono ?_); rintro e w8 ⟨rfl, p', hS2⟩; obtain ⟨n1, n2, n3⟩ := hnx.out _ _ hS2; obtain ⟨u, hu⟩ := hsome.out; rw [hu] at n2; have n1 := Lib.hid n1; clear hS2 hin1 hnx)
            exact ⟨⟨j + 1, by omega, by go_num, n1⟩, by simp [intOf]; omega⟩
          · obtain rfl : j = m := by omega
            have hL : Hid (Row .u32 wr (some ⟨g, 0, none⟩) j (newL N.g j)) := Lib.hid (by have := hF.out.own; rw [fillF_full, ← hNL.out] at this; exact Row.of_own this (newL_len _ _) (by omega))
            have hLR : Hid (LRow wr (some ⟨g, 0, none⟩) j j (newL N.g j)) := Lib.hid (by have := hF.out.own; rw [fillF_full, ← hNL.out] at this; exact ⟨newL_len _ _, own_base this (Nat.zero_le _)⟩)
            have hI := Lib.hid hNS.is
            obtain ⟨K, hK⟩ := hNS.is.ins
            have hcl := Lib.hid (fun w2 (hb2 : Below wr.heap.size wr w2) => clone_lit (c := j) (hL.out.step hb2) (by omega))
            have hrow := Lib.hid (fun w2 (hb2 : Below wr.heap.size wr w2) => (show w2.ownsRow 0 184 2 (.slice ia N.ins.length ic) N.ins.length (bvCells K) by have := (hK.below hb2).own; simp only [ev] at this; exact this))
            have hpush := Lib.hid (fun (wa w1 : World) (hb : Below wr.heap.size wr wa) (la : Option Addr) (lc : Nat) (hl : LRow wa la j lc (newL N.g j)) (g cap : Nat) hown hg hat => in_push (w1 := w1) hNS.is hb hK (s := s) hl (g := g) (cap := cap) hown hg hat)
            simp only [ev] at hpush
            have hne := netBox_far hNS.is (v := .slice ia N.ins.length ic) (.inl ev.symm)
            have hlr := hNS.is.lt
            obtain ⟨ja, jc, sa, sc, ta, tc, e1, -, -, -, -, d2, -, -, fz⟩ := hNS.is.cells
            simp only [ev, Value.slice.injEq] at e1
            obtain ⟨e1, -, e3⟩ := e1
            rw [← e1, ← e3] at d2
            have f2 := fz 2
            have hNL2 := Lib.hid hNS.is.noLits
            simp only [ev] at hNS hNL2
            have hNS2 := Lib.hid hNS
            simp only [] at hne hlr d2 f2
            clear hNS hI
            clear hS hK hL fz hF hgb hin e1 e3 hNL
            generalize N.ins.length = k at *
            have hwr := Lib.hid (Below.refl wr.heap.size wr)
            go_upto_region 18 with fail
            go_region_law (first
              | (go_simp; go_at_call 125; (with_reducible refine (hcl.out _ hwr.out.drew).mono ?_); rintro e w6 ⟨a2, c2, rfl, hM⟩; have hb7 := nextw hwr.out.drew hM.below; have f5 := stepc hb7 hlr d2; have ff5 := ((bcell hb7).2 q.b 2 hlr).trans f2; have hlr6 := Lib.hid hM.lrow; have hlb6 : q.b < w6.heap.size := Nat.lt_of_lt_of_le hlr hb7.size; have hb7 := Lib.hid hb7; clear hM)
              | (refine step_append_lies _ (by rfl) (.tmp 66) (.tmp 71) _ (by rfl) 0 184 i0 (.agg #[.string ByteArray.empty, .slice none 0 0]) 2 40 Tryd.underlying89 hi hz0 hz1 hz2 rfl (by decide) (.slice ia k ic) k (bvCells K) (by rfl) (hrow.out _ (hb7.out.alloc hb7.out.size _)) ⟨w6.heap.size, 0, none⟩ 1 1 [.string s, .slice a2 j c2] (by rfl) rfl (news_list _ _ _) (by simp [Value.oneCell']) (by decide) (by unfold maxLen; omega) (by omega) (by simp) _ rfl ?_; intro g1 cap1 w7 hown1 hgrow1 hat1 hlt1; obtain ⟨x0, x1⟩ := grow_box hgrow1 (b := q.b) (o := 2) (v := .slice ia k ic) (by go_simp) (by go_simp) hne))
            all_goals go_wp2
            all_goals go_ret2
            all_goals
              obtain ⟨q', hq⟩ := hpush.out _ _ (hb7.out.alloc hb7.out.size _) _ _ (hlr6.out.below ((Below.refl _ _).alloc (Nat.le_refl _) _)) _ _ hown1 hgrow1 hat1
              exact ⟨_, _, rfl, hLR.out.keptF hq.kept hNL2.out, q', hNS2.out.trans hq⟩
end Go.Proofs.YtnhpjacodhdpeaaDoor
end
