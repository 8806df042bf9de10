/-
  Two squares turned over, and laid into two new boxes, in whatever order.
-/
import Derived.Test.YtgbhhmmllbanlaaOrd
namespace Go.Proofs.Ytgbhhmmllbanlaa
open Go.RowKit
set_option maxRecDepth 100000

theorem dep_of {ops : Array Oper} {listed : Array Bool} {i k : Nat} {o : Oper} (h : i ∈ Region.ready .any ops listed) (ho : ops[i]? = some o) (hk : (o.after.any fun e => Region.binds .any e && e.on == k) = true) : listed.getD k false = true := by
  obtain ⟨-, o', ho', hall⟩ := mem_ready.1 h
  obtain rfl : o' = o := Option.some.inj (ho'.symm.trans ho)
  obtain ⟨e, he, hb⟩ := Array.any_eq_true'.1 hk
  simp only [Bool.and_eq_true, beq_iff_eq] at hb
  rw [← hb.2]
  exact hall e he hb.1
theorem got_set {listed : Array Bool} {i : Nat} (hi : i < listed.size) (j : Nat) : (listed.setIfInBounds i true).getD j false = if j = i then true else listed.getD j false := by
  by_cases e : j = i
  · subst e; rw [if_pos rfl]; simp [hi]
  · rw [if_neg e, getD_set_ne false (fun x => e x.symm)]

theorem wp_alloc_sq {o : Oper} {a : Act} {w : World} {K : Act → World → Prop} {Q : Exit → Act → World → Prop} (ho : o.op = .alloc 23)
    (h : K (a.put o.dst (.pointer (some ⟨w.heap.size, 0, none⟩))) (w.alloc (.cells (sqA (fun _ => 0)) 23))) : o.wp Try.prog a w K Q := by
  have hz := (zero_of_info info_sq).1
  unfold Oper.wp execOp
  simp only [ho]
  simp [Instr.alloc, hz, go_sem]
  exact h
theorem wp_call_turn {o : Oper} {a : Act} {w : World} {K : Act → World → Prop} {Q : Exit → Act → World → Prop} {x : Operand} {ts : Array TypeId} (ho : o.op = .call { callee := .value (.func 9), args := #[x], argTypes := ts })
    {f : Nat → Nat} (hf : ∀ i, f i < 18446744073709551616) (hx : a.eval x = .agg (sqA f)) (h : ∀ w', Below w.heap.size w w' → K (a.put o.dst (.agg (sqA (turn f)))) w') : o.wp Try.prog a w K Q := by
  have hrun : (execOp a.eval o).run Try.prog w = .ok (.enter 9 #[.agg (sqA f)]) w := by
    unfold execOp
    simp only [ho]
    simp [resolve, go_sem]
    simpa [Act.eval] using hx
  unfold Oper.wp
  rw [hrun, Oper.upon_enter]
  refine (turn_any f hf w).mono fun e w' hh => ?_
  obtain ⟨rfl, hB⟩ := hh
  exact h w' hB
theorem not_yet {ops : Array Oper} {listed : Array Bool} {i : Nat} {md : Region.Mode} (h : i ∈ Region.ready md ops listed) (hi : i < listed.size) : listed.getD i false = false := by
  have := (mem_ready.1 h).1
  simpa [hi] using this

theorem slot_in {d1 r1 d2 r2 p1 p2 : Tmp} (hnd : [d1, r1, d2, r2, p1, p2].Nodup) : ∀ i, i < 6 → ∀ j, j < 6 → [d1, r1, d2, r2, p1, p2].getD i 0 = [d1, r1, d2, r2, p1, p2].getD j 0 → i = j := by
  intro i hi j hj h
  simp at hnd
  obtain ⟨⟨n1, n2, n3, n4, n5⟩, ⟨n6, n7, n8, n9⟩, ⟨n10, n11, n12⟩, ⟨n13, n14⟩, n15⟩ := hnd
  have h1 : i = 0 ∨ i = 1 ∨ i = 2 ∨ i = 3 ∨ i = 4 ∨ i = 5 := by omega
  have h2 : j = 0 ∨ j = 1 ∨ j = 2 ∨ j = 3 ∨ j = 4 ∨ j = 5 := by omega
  rcases h1 with rfl | rfl | rfl | rfl | rfl | rfl <;> rcases h2 with rfl | rfl | rfl | rfl | rfl | rfl <;> first
    | rfl
    | (exfalso; simp at h; first | exact absurd h (by assumption) | exact absurd h.symm (by assumption))

def turnsV (f g : Nat → Nat) (c1 c2 : Nat) (k : Nat) : Value :=
  match k with
  | 0 => .agg (sqA f)
  | 1 => .agg (sqA (turn f))
  | 2 => .agg (sqA g)
  | 3 => .agg (sqA (turn g))
  | 4 => .pointer (some ⟨c1, 0, none⟩)
  | _ => .pointer (some ⟨c2, 0, none⟩)

/-- Whatever is done so far. -/
structure TwoI (T : Nat → Tmp) (w : World) (a0 : Act) (f g : Nat → Nat) (listed : Array Bool) (a : Act) (w' : World) (c1 c2 : Nat) : Prop where
  size : listed.size = 8
  slots : Slots T (turnsV f g c1 c2) 6 a0 (fun k => listed.getD k false) a
  below : Below w.heap.size w w'
  one : listed.getD 4 false = true → w.heap.size ≤ c1 ∧ Blk w' c1 (if listed.getD 6 false = true then turn f else fun _ => 0)
  two : listed.getD 5 false = true → w.heap.size ≤ c2 ∧ Blk w' c2 (if listed.getD 7 false = true then turn g else fun _ => 0)
  ne : listed.getD 4 false = true → listed.getD 5 false = true → c1 ≠ c2
  o6 : listed.getD 6 false = true → listed.getD 4 false = true
  o7 : listed.getD 7 false = true → listed.getD 5 false = true

theorem TwoI.slot {T : Nat → Tmp} {w : World} {a0 : Act} {f g : Nat → Nat} {listed : Array Bool} {a : Act} {w' w2 : World} {c1 c2 : Nat} (h : TwoI T w a0 f g listed a w' c1 c2) {k : Nat} (hk : k < 4) (hT : ∀ i, i < 6 → ∀ j, j < 6 → T i = T j → i = j) (hs : T k < a0.tmps.size)
    (hb : Below w'.heap.size w' w2) (v : Value) (hv : turnsV f g c1 c2 k = v) : TwoI T w a0 f g (listed.setIfInBounds k true) (a.put (some (T k)) v) w2 c1 c2 := by
  have hi : k < listed.size := by have := h.size; omega
  have hg := got_set hi
  have h4 := hg 4
  have h5 := hg 5
  have h6 := hg 6
  have h7 := hg 7
  rw [if_neg (by omega)] at h4 h5 h6 h7
  refine ⟨by rw [Array.size_setIfInBounds]; exact h.size, ?_, nextw h.below hb, ?_, ?_, ?_, ?_, ?_⟩
  · have := h.slots.put (V' := turnsV f g c1 c2) (show k < 6 by omega) hT hs (fun _ _ _ => rfl) v hv
    simp only [hg]; exact this
  · rw [h4, h6]
    exact fun e => ⟨(h.one e).1, (h.one e).2.step hb⟩
  · rw [h5, h7]
    exact fun e => ⟨(h.two e).1, (h.two e).2.step hb⟩
  · rw [h4, h5]
    exact h.ne
  · rw [h6, h4]
    exact h.o6
  · rw [h7, h5]
    exact h.o7

set_option maxHeartbeats 2000000 in
theorem two_turns {id : Nat} {Q : Exit → Act → World → Prop} {a0 : Act} {w : World} {b1 b2 : Nat} {f g : Nat → Nat} (hf : ∀ i, f i < 18446744073709551616) (hg : ∀ i, g i < 18446744073709551616) (hb1 : Blk w b1 f) (hb2 : Blk w b2 g)
    (s1 s2 d1 r1 d2 r2 p1 p2 : Tmp) (ts1 ts2 : Array TypeId) (y0 y1 y2 y3 y4 y5 y6 y7 : TypeId) (o0 o1 o2 o3 o4 o5 o6 o7 : String) (e0 e1 e2 e3 e4 e5 e6 e7 : Array Edge)
    (hx1 : a0.eval (.tmp s1) = .pointer (some ⟨b1, 0, none⟩)) (hx2 : a0.eval (.tmp s2) = .pointer (some ⟨b2, 0, none⟩))
    (hnd : [d1, r1, d2, r2, p1, p2].Nodup) (hs1 : s1 ∉ [d1, r1, d2, r2, p1, p2]) (hs2 : s2 ∉ [d1, r1, d2, r2, p1, p2]) (hsz : ∀ t ∈ [d1, r1, d2, r2, p1, p2], t < a0.tmps.size)
    (ha1 : (e1.any fun e => Region.binds .any e && e.on == 0) = true) (ha3 : (e3.any fun e => Region.binds .any e && e.on == 2) = true)
    (ha6 : (e6.any fun e => Region.binds .any e && e.on == 4) = true) (ha6' : (e6.any fun e => Region.binds .any e && e.on == 1) = true) (ha7 : (e7.any fun e => Region.binds .any e && e.on == 5) = true) (ha7' : (e7.any fun e => Region.binds .any e && e.on == 3) = true)
    (hback : backB #[⟨some d1, .load 23 (.tmp s1), y0, o0, e0, none⟩, ⟨some r1, .call { callee := .value (.func 9), args := #[.tmp d1], argTypes := ts1 }, y1, o1, e1, none⟩, ⟨some d2, .load 23 (.tmp s2), y2, o2, e2, none⟩, ⟨some r2, .call { callee := .value (.func 9), args := #[.tmp d2], argTypes := ts2 }, y3, o3, e3, none⟩,
      ⟨some p1, .alloc 23, y4, o4, e4, none⟩, ⟨some p2, .alloc 23, y5, o5, e5, none⟩, ⟨none, .store 23 (.tmp p1) (.tmp r1), y6, o6, e6, none⟩, ⟨none, .store 23 (.tmp p2) (.tmp r2), y7, o7, e7, none⟩] = true)
    (h : ∀ w' c1 c2, Below w.heap.size w w' → w.heap.size ≤ c1 → w.heap.size ≤ c2 → c1 ≠ c2 → Blk w' c1 (turn f) → Blk w' c2 (turn g) →
      Q .normal ((((((a0.put (some d1) (.agg (sqA f))).put (some r1) (.agg (sqA (turn f)))).put (some d2) (.agg (sqA g))).put (some r2) (.agg (sqA (turn g)))).put (some p1) (.pointer (some ⟨c1, 0, none⟩))).put (some p2) (.pointer (some ⟨c2, 0, none⟩))) w') :
    (Code.region id #[⟨some d1, .load 23 (.tmp s1), y0, o0, e0, none⟩, ⟨some r1, .call { callee := .value (.func 9), args := #[.tmp d1], argTypes := ts1 }, y1, o1, e1, none⟩, ⟨some d2, .load 23 (.tmp s2), y2, o2, e2, none⟩, ⟨some r2, .call { callee := .value (.func 9), args := #[.tmp d2], argTypes := ts2 }, y3, o3, e3, none⟩,
      ⟨some p1, .alloc 23, y4, o4, e4, none⟩, ⟨some p2, .alloc 23, y5, o5, e5, none⟩, ⟨none, .store 23 (.tmp p1) (.tmp r1), y6, o6, e6, none⟩, ⟨none, .store 23 (.tmp p2) (.tmp r2), y7, o7, e7, none⟩] true).wp Try.prog Q a0 w := by
  have hT' := slot_in hnd
  have hTs' : ∀ k, k < 6 → [d1, r1, d2, r2, p1, p2].getD k 0 < a0.tmps.size := fun k hk => hsz _ (by
    have hk' : k < [d1, r1, d2, r2, p1, p2].length := hk
    simp only [List.getD, List.getElem?_eq_getElem hk', Option.getD_some]
    exact List.getElem_mem _)
  have hn1' : ∀ k, k < 6 → s1 ≠ [d1, r1, d2, r2, p1, p2].getD k 0 := fun k hk e => hs1 (by
    have hk' : k < [d1, r1, d2, r2, p1, p2].length := hk
    simp only [List.getD, List.getElem?_eq_getElem hk', Option.getD_some] at e
    rw [e]; exact List.getElem_mem _)
  have hn2' : ∀ k, k < 6 → s2 ≠ [d1, r1, d2, r2, p1, p2].getD k 0 := fun k hk e => hs2 (by
    have hk' : k < [d1, r1, d2, r2, p1, p2].length := hk
    simp only [List.getD, List.getElem?_eq_getElem hk', Option.getD_some] at e
    rw [e]; exact List.getElem_mem _)
  obtain ⟨T, hTT⟩ : ∃ T : Nat → Tmp, T = fun k => [d1, r1, d2, r2, p1, p2].getD k 0 := ⟨_, rfl⟩
  have t0 : d1 = T 0 := by rw [hTT]; rfl
  have t1 : r1 = T 1 := by rw [hTT]; rfl
  have t2 : d2 = T 2 := by rw [hTT]; rfl
  have t3 : r2 = T 3 := by rw [hTT]; rfl
  have t4 : p1 = T 4 := by rw [hTT]; rfl
  have t5 : p2 = T 5 := by rw [hTT]; rfl
  have hT : ∀ i, i < 6 → ∀ j, j < 6 → T i = T j → i = j := by rw [hTT]; exact hT'
  have hTs : ∀ k, k < 6 → T k < a0.tmps.size := by rw [hTT]; exact hTs'
  have hn1 : ∀ k, k < 6 → s1 ≠ T k := by rw [hTT]; exact hn1'
  have hn2 : ∀ k, k < 6 → s2 ≠ T k := by rw [hTT]; exact hn2'
  clear hTT hnd hs1 hs2 hsz hT' hTs' hn1' hn2'
  subst t0 t1 t2 t3 t4 t5
  refine wp_region_inv (I := fun l a w' => ∃ c1 c2, TwoI T w a0 f g l a w' c1 c2) (by kernel_rfl) ?_ ?_ ?_
  · refine ⟨0, 0, rfl, ?_, (Below.refl _ _).drew, ?_, ?_, ?_, ?_, ?_⟩
    · refine (Slots.start (V := turnsV f g 0 0) a0).congr (fun k hk hck => ?_)
      exfalso
      have : k = 0 ∨ k = 1 ∨ k = 2 ∨ k = 3 ∨ k = 4 ∨ k = 5 := by omega
      rcases this with rfl | rfl | rfl | rfl | rfl | rfl <;> cases hck
    · intro e; cases e
    · intro e; cases e
    · intro e; cases e
    · intro e; cases e
    · intro e; cases e
  · intro i listed a w' hr ⟨c1, c2, hI⟩
    have hi := ready_lt hr
    have hi8 : i < 8 := hi
    have hsz := hI.size
    have hB1 : Blk w' b1 f := hb1.step hI.below
    have hB2 : Blk w' b2 g := hb2.step hI.below
    have hc : i = 0 ∨ i = 1 ∨ i = 2 ∨ i = 3 ∨ i = 4 ∨ i = 5 ∨ i = 6 ∨ i = 7 := by omega
    rcases hc with rfl | rfl | rfl | rfl | rfl | rfl | rfl | rfl
    · refine wpOp_of rfl rfl (wp_load_row _ _ rfl b1 ?_ _ _ _ _ hB1 und_sq rfl (by rw [(zero_of_info info_sq).2, sqA_size]) ?_)
      · rw [hI.slots.eval_rest hn1]; exact hx1
      · exact ⟨c1, c2, hI.slot (k := 0) (by omega) hT (hTs 0 (by omega)) (Below.refl _ _) _ rfl⟩
    · have e0 := dep_of (k := 0) hr rfl ha1
      refine wpOp_of rfl rfl (wp_call_turn rfl hf (hI.slots.eval (by omega) e0) ?_)
      intro w2 hb
      exact ⟨c1, c2, hI.slot (k := 1) (by omega) hT (hTs 1 (by omega)) hb _ rfl⟩
    · refine wpOp_of rfl rfl (wp_load_row _ _ rfl b2 ?_ _ _ _ _ hB2 und_sq rfl (by rw [(zero_of_info info_sq).2, sqA_size]) ?_)
      · rw [hI.slots.eval_rest hn2]; exact hx2
      · exact ⟨c1, c2, hI.slot (k := 2) (by omega) hT (hTs 2 (by omega)) (Below.refl _ _) _ rfl⟩
    · have e2 := dep_of (k := 2) hr rfl ha3
      refine wpOp_of rfl rfl (wp_call_turn rfl hg (hI.slots.eval (by omega) e2) ?_)
      intro w2 hb
      exact ⟨c1, c2, hI.slot (k := 3) (by omega) hT (hTs 3 (by omega)) hb _ rfl⟩
    · refine wpOp_of rfl rfl (wp_alloc_sq rfl ?_)
      have h4 : listed.getD 4 false = false := not_yet hr (by omega)
      have hb := (Below.refl w'.heap.size w').alloc (Nat.le_refl _) (.cells (sqA (fun _ => 0)) 23)
      have hg := got_set (listed := listed) (i := 4) (by omega)
      have g4 : (listed.setIfInBounds 4 true).getD 4 false = true := hg 4
      have g5 : (listed.setIfInBounds 4 true).getD 5 false = listed.getD 5 false := hg 5
      have g6 : (listed.setIfInBounds 4 true).getD 6 false = listed.getD 6 false := hg 6
      have g7 : (listed.setIfInBounds 4 true).getD 7 false = listed.getD 7 false := hg 7
      have h6 : ¬ (listed.getD 6 false = true) := fun e => by have := hI.o6 e; rw [h4] at this; cases this
      refine ⟨w'.heap.size, c2, by rw [Array.size_setIfInBounds]; exact hsz, ?_, nextw hI.below hb, ?_, ?_, ?_, ?_, ?_⟩
      · have := hI.slots.put (V' := turnsV f g w'.heap.size c2) (k := 4) (by omega) hT (hTs 4 (by omega)) (fun j hj hne => by
          have : j = 0 ∨ j = 1 ∨ j = 2 ∨ j = 3 ∨ j = 4 ∨ j = 5 := by omega
          rcases this with rfl | rfl | rfl | rfl | rfl | rfl <;> first | rfl | exact absurd rfl hne) _ rfl
        simp only [hg]; exact this
      · intro _
        refine ⟨hI.below.size, ?_⟩
        rw [g6, if_neg h6]
        exact Blk.new _ _
      · rw [g5, g7]
        exact fun e => ⟨(hI.two e).1, (hI.two e).2.step hb⟩
      · rw [g5]
        intro _ e
        have := (hI.two e).2.lt
        omega
      · intro _; exact g4
      · rw [g7, g5]; exact hI.o7
    · refine wpOp_of rfl rfl (wp_alloc_sq rfl ?_)
      have h5 : listed.getD 5 false = false := not_yet hr (by omega)
      have hb := (Below.refl w'.heap.size w').alloc (Nat.le_refl _) (.cells (sqA (fun _ => 0)) 23)
      have hg := got_set (listed := listed) (i := 5) (by omega)
      have g4 : (listed.setIfInBounds 5 true).getD 4 false = listed.getD 4 false := hg 4
      have g5 : (listed.setIfInBounds 5 true).getD 5 false = true := hg 5
      have g6 : (listed.setIfInBounds 5 true).getD 6 false = listed.getD 6 false := hg 6
      have g7 : (listed.setIfInBounds 5 true).getD 7 false = listed.getD 7 false := hg 7
      have h7 : ¬ (listed.getD 7 false = true) := fun e => by have := hI.o7 e; rw [h5] at this; cases this
      refine ⟨c1, w'.heap.size, by rw [Array.size_setIfInBounds]; exact hsz, ?_, nextw hI.below hb, ?_, ?_, ?_, ?_, ?_⟩
      · have := hI.slots.put (V' := turnsV f g c1 w'.heap.size) (k := 5) (by omega) hT (hTs 5 (by omega)) (fun j hj hne => by
          have : j = 0 ∨ j = 1 ∨ j = 2 ∨ j = 3 ∨ j = 4 ∨ j = 5 := by omega
          rcases this with rfl | rfl | rfl | rfl | rfl | rfl <;> first | rfl | exact absurd rfl hne) _ rfl
        simp only [hg]; exact this
      · rw [g4, g6]
        exact fun e => ⟨(hI.one e).1, (hI.one e).2.step hb⟩
      · intro _
        refine ⟨hI.below.size, ?_⟩
        rw [g7, if_neg h7]
        exact Blk.new _ _
      · rw [g4]
        intro e _
        have := (hI.one e).2.lt
        omega
      · rw [g6, g4]; exact hI.o6
      · intro _; exact g5
    · have e1 := dep_of (k := 1) hr rfl ha6'
      have e4 := dep_of (k := 4) hr rfl ha6
      have hg := got_set (listed := listed) (i := 6) (by omega)
      have g4 : (listed.setIfInBounds 6 true).getD 4 false = listed.getD 4 false := hg 4
      have g5 : (listed.setIfInBounds 6 true).getD 5 false = listed.getD 5 false := hg 5
      have g6 : (listed.setIfInBounds 6 true).getD 6 false = true := hg 6
      have g7 : (listed.setIfInBounds 6 true).getD 7 false = listed.getD 7 false := hg 7
      obtain ⟨hc1, hC1⟩ := hI.one e4
      refine wpOp_of rfl rfl (wp_store_row _ _ _ rfl c1 (sqA (turn f)) (hI.slots.eval (by omega) e4) (hI.slots.eval (by omega) e1) _ _ hC1 (by rw [(zero_of_info info_sq).2, sqA_size]) (by rw [sqA_size, sqA_size]) (sqA_one _) ?_)
      refine ⟨c1, c2, by rw [Array.size_setIfInBounds]; exact hsz, ?_, hI.below.trans (below_setRow hc1 _), ?_, ?_, ?_, ?_, ?_⟩
      · refine hI.slots.congr fun k hk hck => ⟨?_, rfl⟩
        simp only [hg] at hck
        rw [if_neg (by omega)] at hck
        exact hck
      · intro _
        refine ⟨hc1, ?_⟩
        rw [if_pos g6]
        exact hC1.put _
      · rw [g5, g7]
        exact fun e => ⟨(hI.two e).1, (hI.two e).2.putOther (fun x => hI.ne e4 e x.symm) _⟩
      · rw [g4, g5]; exact hI.ne
      · intro _; rw [g4]; exact e4
      · rw [g7, g5]; exact hI.o7
    · have e3 := dep_of (k := 3) hr rfl ha7'
      have e5 := dep_of (k := 5) hr rfl ha7
      have hg := got_set (listed := listed) (i := 7) (by omega)
      have g4 : (listed.setIfInBounds 7 true).getD 4 false = listed.getD 4 false := hg 4
      have g5 : (listed.setIfInBounds 7 true).getD 5 false = listed.getD 5 false := hg 5
      have g6 : (listed.setIfInBounds 7 true).getD 6 false = listed.getD 6 false := hg 6
      have g7 : (listed.setIfInBounds 7 true).getD 7 false = true := hg 7
      obtain ⟨hc2, hC2⟩ := hI.two e5
      refine wpOp_of rfl rfl (wp_store_row _ _ _ rfl c2 (sqA (turn g)) (hI.slots.eval (by omega) e5) (hI.slots.eval (by omega) e3) _ _ hC2 (by rw [(zero_of_info info_sq).2, sqA_size]) (by rw [sqA_size, sqA_size]) (sqA_one _) ?_)
      refine ⟨c1, c2, by rw [Array.size_setIfInBounds]; exact hsz, ?_, hI.below.trans (below_setRow hc2 _), ?_, ?_, ?_, ?_, ?_⟩
      · refine hI.slots.congr fun k hk hck => ⟨?_, rfl⟩
        simp only [hg] at hck
        rw [if_neg (by omega)] at hck
        exact hck
      · rw [g4, g6]
        exact fun e => ⟨(hI.one e).1, (hI.one e).2.putOther (hI.ne e e5) _⟩
      · intro _
        refine ⟨hc2, ?_⟩
        rw [if_pos g7]
        exact hC2.put _
      · rw [g4, g5]; exact hI.ne
      · rw [g6, g4]; exact hI.o6
      · intro _; rw [g5]; exact e5
  · intro listed a w' hn ⟨c1, c2, hI⟩
    have hd := all_done hback hI.size hn 8
    have hd' : ∀ i, i < 8 → listed.getD i false = true := fun i hi => hd i hi hi
    obtain ⟨hc1, hC1⟩ := hI.one (hd' 4 (by omega))
    obtain ⟨hc2, hC2⟩ := hI.two (hd' 5 (by omega))
    rw [if_pos (hd' 6 (by omega))] at hC1
    rw [if_pos (hd' 7 (by omega))] at hC2
    have hV : ∀ V : Nat → Value, ∀ k : Nat, ∀ j, j < 6 → j ≠ k → V j = V j := fun _ _ _ _ _ => rfl
    have s0 := (Slots.start (T := T) (n := 6) (V := turnsV f g c1 c2) a0).put (V' := turnsV f g c1 c2) (k := 0) (by omega) hT (hTs 0 (by omega)) (fun _ _ _ => rfl) _ rfl
    have s1 := s0.put (V' := turnsV f g c1 c2) (k := 1) (by omega) hT (hTs 1 (by omega)) (fun _ _ _ => rfl) _ rfl
    have s2 := s1.put (V' := turnsV f g c1 c2) (k := 2) (by omega) hT (hTs 2 (by omega)) (fun _ _ _ => rfl) _ rfl
    have s3 := s2.put (V' := turnsV f g c1 c2) (k := 3) (by omega) hT (hTs 3 (by omega)) (fun _ _ _ => rfl) _ rfl
    have s4 := s3.put (V' := turnsV f g c1 c2) (k := 4) (by omega) hT (hTs 4 (by omega)) (fun _ _ _ => rfl) _ rfl
    have s5 := s4.put (V' := turnsV f g c1 c2) (k := 5) (by omega) hT (hTs 5 (by omega)) (fun _ _ _ => rfl) _ rfl
    have e := hI.slots.one s5 (fun k hk => hd' k (by omega)) (fun k hk => by
      have : k = 0 ∨ k = 1 ∨ k = 2 ∨ k = 3 ∨ k = 4 ∨ k = 5 := by omega
      rcases this with rfl | rfl | rfl | rfl | rfl | rfl <;> rfl)
    rw [e]
    exact h w' c1 c2 hI.below hc1 hc2 (hI.ne (hd' 4 (by omega)) (hd' 5 (by omega))) hC1 hC2
end Go.Proofs.Ytgbhhmmllbanlaa
