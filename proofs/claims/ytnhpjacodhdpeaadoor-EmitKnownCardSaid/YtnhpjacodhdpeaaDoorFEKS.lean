/-
  EmitKnown: the walk.
  What a row's condition says of the table of powers of ten.
  EmitKnown: for every input the law's Go text returns true and leaves its arguments as they were; the tables that the text of the program lays hold what it lays there.
-/
import Derived.Test.YtnhpjacodhdpeaaDoorFEKR
import Derived.Test.YtnhpjacodhdpeaaDoorFEKE
import Derived.Test.YtnhpjacodhdpeaaDoorFEKF
import Derived.Test.YtnhpjacodhdpeaaDoorFEKA
import Derived.Test.YtnhpjacodhdpeaaDoorCards
import Derived.Test.YtnhpjacodhdpeaaDoorTie
import Derived.SevenTiedAt
section
namespace Go.Proofs.YtnhpjacodhdpeaaDoor
open Go.RowKit Go.Maps Bits Go.Shelf
attribute [local go_sem] Oper.semAt_some
set_option maxRecDepth 100000
set_option linter.unusedVariables false

abbrev sEmpty : ByteArray := { data := #[101, 109, 112, 116, 121] }
theorem empty_may : mayName sEmpty = true := by decide
def n0 : Nt := ⟨newG false false, sEmpty, [], [], []⟩
def n1 : Nt := ⟨inputG (newG false false), sEmpty, [], [], []⟩
theorem n0_good : Good n0 [] := Good.new false false empty_may
theorem n1_good : Good n1 [2] := n0_good.input
abbrev lE0 : List UInt8 := [46, 109, 111, 100, 101, 108, 32, 101, 109, 112, 116, 121, 10, 46, 101, 110, 100, 10]
abbrev sE0 : ByteArray := { data := #[46, 109, 111, 100, 101, 108, 32, 101, 109, 112, 116, 121, 10, 46, 101, 110, 100, 10] }
theorem textE : textN n0 = lE0 := by kernel_rfl
theorem allE {w0 w : World} {B C : Nat} {q : NPl} (h : AtN w0 B C w q n0) (ht : PW w) :
    Calls Tryd.prog 34 #[.pointer (some ⟨B, 0, none⟩)] w fun e w' => ∃ g cap, e = .returned (.tuple #[.slice (some ⟨g, 0, none⟩) 18 cap, .int .i64 0]) ∧ w'.ownsRow w.heap.size 5 1 (.slice (some ⟨g, 0, none⟩) 18 cap) 18 (bys lE0) ∧ Below w.heap.size w w' := by
  have h1 := All_good h.is n0_good (small_t (by decide)) ht
  rw [h.b, textE] at h1
  refine h1.mono ?_
  rintro e w' ⟨va, c, rfl, hQ, hB⟩
  rcases hQ with ⟨h0, -⟩ | ⟨-, -, rfl, ho⟩ | ⟨-, hl, -⟩
  · exact absurd rfl h0
  · obtain ⟨g, cap, rfl⟩ := own_form ho (by decide)
    exact ⟨g, cap, rfl, ho, hB⟩
  · simp at hl
theorem convB {W : World} {base g cap : Nat} (l : List UInt8) (h : W.ownsRow base 5 1 (.slice (some ⟨g, 0, none⟩) l.length cap) l.length (bys l)) : (convert 31 9 (.slice (some ⟨g, 0, none⟩) l.length cap)).run Tryd.prog W = .ok (.string ⟨l.toArray⟩) W := by
  refine run_convert_bytes_back W _ _ 5 _ cap l Tryd.underlying31 Tryd.underlying5 Tryd.underlying9 (fun j hj => ?_)
  rw [show (⟨g, 0, none⟩ : Addr).add j = ⟨g, j, none⟩ by simp [Addr.add]; omega, h.cellAt (j := j) (by omega)]
  simp [bys, hj]
theorem convE {W : World} {base g cap : Nat} (h : W.ownsRow base 5 1 (.slice (some ⟨g, 0, none⟩) 18 cap) 18 (bys lE0)) : (convert 31 9 (.slice (some ⟨g, 0, none⟩) 18 cap)).run Tryd.prog W = .ok (.string sE0) W := convB lE0 h
theorem inputE {w0 w : World} {B C : Nat} {q : NPl} (h : AtN w0 B C w q n0) :
    Calls Tryd.prog 38 #[.pointer (some ⟨C, 0, none⟩)] w fun e w' => e = .returned (.tuple #[.int .u32 2, .int .i64 0]) ∧ ∃ q' : NPl, AtN w0 B C w' q' n1 ∧ Kept q.has w w' := by
  have := Input_any h.is.g n0_good.wf (by decide)
  rw [show q.g.b = C from h.gb] at this
  exact this.mono fun _ w' ⟨he, p', hS⟩ => ⟨he, _, h.next (h.is.grow hS), (h.is.grow hS).kept⟩
theorem AtN.errs {w0 w : World} {B C : Nat} {q : NPl} {N : Nt} {rest : List Int} (h : AtN w0 B C w q N) (hg : Good N rest) (hS : Small N) (hz : ckV rest ≠ 0) : Errs w (some ⟨B, 0, none⟩) (ckV rest) :=
  ⟨hz, fun W hW => (h.step hW).check hg hS rfl⟩
/-- The rows of bytes lie elsewhere. -/
theorem AtN.bytes {w0 w w' : World} {B C base n : Nat} {q : NPl} {N : Nt} {v : Value} {xs : List Value} (h : AtN w0 B C w q N) (ho : w.ownsRow base 5 1 v n xs) (hk : Kept q.has w w') : w'.ownsRow base 5 1 v n xs :=
  own_keptF ho hk (fun k e hf => by
    obtain ⟨cur, hh⟩ := own_type ho e
    exact h.is.other hh (by decide) (by decide) (by decide) (by decide) (by decide) (by decide) hf)
def t5b : Nt := { t5 with regs := [⟨1, 8, 1, true⟩] }
theorem bad_set {w0 w : World} {B C : Nat} {q : NPl} (h : AtN w0 B C w q t5) :
    ∃ g rc, w.cell? ⟨B, 3, none⟩ = some (.slice (some ⟨g, 0, none⟩) 1 rc) ∧ w.cell? ⟨g, 0, none⟩ = some (.int .u32 6) ∧ w.frozen? ⟨g, 0, none⟩ = false ∧ AtN w0 B C (w.setCell ⟨g, 0, none⟩ (.int .u32 1)) q t5b ∧ Below w0.heap.size w (w.setCell ⟨g, 0, none⟩ (.int .u32 1)) := by
  obtain ⟨ia, ic, ra, rc, oa, oc, -, hv, -, -, -, -, c3, -, -⟩ := h.is.cells
  have hrow := h.is.regs
  obtain ⟨g, cap, e⟩ := own_form hrow (by decide)
  rw [hv] at e
  simp only [Value.slice.injEq] at e
  obtain ⟨rfl, -, -⟩ := e
  have hr : w.ownsRow 0 99 4 (.slice (some ⟨g, 0, none⟩) 1 rc) 1 (rgCells [⟨6, 8, 1, true⟩]) := by
    have h2 := hrow
    unfold RegRow at h2
    rw [hv] at h2
    exact h2
  have h1 := hr.stored 0 (.int .u32 1)
  have hgb : g ≠ q.b := by
    rintro rfl
    exact h.is.bFar.2.1 (by rw [hv]; rfl)
  have hk : Kept (fun k => k = q.b ∨ q.rv.ownBlock = some k) w (w.setCell ⟨g, 0, none⟩ (.int .u32 1)) :=
    ⟨h1.2.os, h1.2.tape, h1.2.output, h1.2.size, fun k hlt hn => h1.2.block k hlt (fun e => hn (.inr (by rw [hv]; simpa [Value.ownBlock] using e.symm)))⟩
  have h2 := h.is.setRegs (v := q.rv) (R := [⟨1, 8, 1, true⟩]) hk (by
    rw [h1.2.block _ h.is.lt (by simpa using fun e => hgb e.symm)]; exact h.is.box) (by
    unfold RegRow
    rw [hv]
    exact h1.1) (fun k hk => .inl hk)
  refine ⟨g, rc, ?_, ?_, hr.frozenAt 0, h.next h2, ?_⟩
  · rw [← h.b]
    exact c3
  · rw [hr.cellAt 0 (by decide)]
    rfl
  · exact (Below.refl _ w).setCell (p := ⟨g, 0, none⟩) (h.out g (.inr (.inr (.inr (.inl (by rw [hv]; rfl)))))) _
theorem bad_errs {w0 w : World} {B C : Nat} {q : NPl} (h : AtN w0 B C w q t5b) : Errs w (some ⟨B, 0, none⟩) 1 :=
  ⟨by decide, fun W hW => by
    have h2 := Check_bad (N := t5) (rs := []) (h.step hW).is t5_good ⟨⟨lit8, by decide⟩, ⟨lit1, by decide⟩⟩ (fun r hr => by simp at hr) (by decide) (by decide) (by decide) (by decide)
    rw [h.b] at h2
    exact h2⟩
/-- The result's box, and what is deferred. -/
structure Sk (w : World) (D : Nat) (W : World) : Prop where
  r : Boxed W w.heap.size 4 (.bool false)
  b : Below w.heap.size w W
  d : W.heap[D]? = some (.deferred (some []))
theorem boxed_step {W W2 : World} {k T : Nat} {v : Value} (h : Boxed W k T v) (hb : Below W.heap.size W W2) : Boxed W2 k T v := (hb.block _ (Array.getElem?_eq_some_iff.1 (show W.heap[k]? = _ from h)).1).trans h
theorem heap_step {W W2 : World} {k : Nat} {o : Obj} (h : W.heap[k]? = some o) (hb : Below W.heap.size W W2) : W2.heap[k]? = some o := (hb.block _ (Array.getElem?_eq_some_iff.1 h).1).trans h
theorem Sk.step {w W W2 : World} {D : Nat} (h : Sk w D W) (hb : Below W.heap.size W W2) : Sk w D W2 := ⟨boxed_step h.r hb, nextw h.b hb, heap_step h.d hb⟩
theorem lines_nil (W : World) : Sem.run Tryd.prog (binOp .eql 82 (.func (.func 73) #[] #[]) .nilFunc) W = .ok (.bool false) W := by kernel_rfl

set_option maxHeartbeats 8000000 in
theorem known10_any {w : World} (ht : PW w) : Calls Tryd.prog 9 #[] w fun e w' => e = .returned (.bool true) ∧ Below w.heap.size w w' := by
  have hPW := Lib.hid (fun W (hb : Below w.heap.size w W) => ht.step hb)
  have hnA := Lib.hid (fun W => All_err (errs_nil W))
  have hnS := Lib.hid (fun W => Size_err (errs_nil W))
  have hnL := Lib.hid (fun W => Lines_err (errs_nil W))
  have hln := lines_nil
  have hR0 : Boxed (w.alloc (.cells #[.bool false] 4)) w.heap.size 4 (.bool false) := Boxed.new w _ _
  have hB0 : Below w.heap.size w (w.alloc (.cells #[.bool false] 4)) := (Below.refl _ _).alloc (Nat.le_refl _) _
  have hR0 := Lib.hid hR0
  have hB0 := Lib.hid hB0
  clear ht
  refine (callsIn_wide (n := 5)).1 ?_
  refine callsIn_of_wp_marks Tryd.func9 rfl trivial ?_ rfl
  simp only [Tryd.ntmps9, List.size_toArray, List.length_cons, List.length_nil, Nat.reduceAdd, Nat.reduceSub, Array.replicate_succ, Array.replicate_zero, List.push_toArray, List.append_toArray, List.nil_append, List.cons_append]
  gi_wp2_with (first
    | (refine ⟨trivial, ?_⟩; gi_at_call 34; refine (callsIn_wide.2 (hnA.out _)).mono ?_; rintro e w2 ⟨rfl, hb2⟩; have hb2 := Lib.hid hb2)
    | (refine ⟨trivial, ?_⟩; gi_at_call 35; refine (callsIn_wide.2 (hnS.out _)).mono ?_; rintro e w3 ⟨rfl, hb3⟩; have hb23 := Lib.hid (nextw hb2.out hb3); clear hb3)
    | (refine ⟨trivial, ?_⟩; gi_at_call 36; refine (callsIn_wide.2 (hnL.out w3)).mono ?_; rintro e w4 ⟨rfl, hb4⟩; have hb24 := Lib.hid (nextw hb23.out hb4); clear hb4)
    | (refine ⟨trivial, ?_⟩; gi_at_call 36; refine (callsIn_wide.2 (hnL.out w4)).mono ?_; rintro e w5 ⟨rfl, hb5⟩; have hb25 := Lib.hid (nextw hb24.out hb5); clear hb5))
  have hS5 := Lib.hid ((⟨boxed_step hR0.out hb25.out, nextw hB0.out hb25.out⟩ : Boxed w5 w.heap.size 4 (.bool false) ∧ Below w.heap.size w w5))
  clear hb2 hb23 hb24 hb25 hnA hnS hR0 hB0
  refine wpIn_rangeFunc_ownF rfl (by omega) (gf := 73) (lb := #[]) rfl trivial (enters_of Tryd.func73 (by kernel_rfl) rfl)
    (lines0_in w5 w5 4 (by omega)) belowK_t (belowK_b (Nat.le_refl _)) (Below.refl _ _) (fun _ => rfl)
    (fun pre W => Below w5.heap.size w5 W) (fun _ _ _ => False) (ownFrom_below (Nat.le_refl _) (Nat.le_refl _)) (fun _ _ _ _ _ hs _ _ => hs) (Below.refl _ _) ?a1 ?assign ?body ?done ?stop
  case assign =>
    intro l x W K hK
    gi_wp2
    exact hK
  case body =>
    intro l pre x W _ hlen
    exact absurd hlen (by simp)
  case stop =>
    rintro D c pre W _ _ h _
    exact h.elim
  case done =>
    rintro D ys W hD - hB hK
    have hwD : w.heap.size ≤ D := Nat.le_trans hS5.out.2.size hD
    have hS := Lib.hid (⟨boxed_step hS5.out.1 hB, nextw hS5.out.2 hB, hK⟩ : Sk w D W)
    clear hB hK hS5
    have hN := Lib.hid (AtN.new W (Below.refl W.heap.size W) false false empty_may)
    gi_wp2_with (first
      | (refine ⟨trivial, ?_⟩; gi_at_call 37; refine (callsIn_wide.2 hN.out).mono ?_; rintro e w6 ⟨q0, B, C, rfl, hA0⟩; have hS6 := Lib.hid (hS.out.step hA0.below); obtain ⟨c0, c1⟩ := hA0.cells; have hal := Lib.hid (allE hA0 (hPW.out _ hS6.out.b)); have hA0 := Lib.hid hA0; clear hN)
      | (refine ⟨trivial, ?_⟩; gi_at_call 34; refine (callsIn_wide.2 hal.out).mono ?_; rintro e w7 ⟨g7, cap7, rfl, ho7, hb7⟩; have d0 := stepc hb7 c1 c0; have hA7 := Lib.hid (hA0.out.step hb7); have hin := Lib.hid (inputE hA7.out); have ho7 := Lib.hid ho7; clear hal hb7 hA0 c0 hS6)
      | (refine ⟨trivial, ?_⟩; gi_at_call 38; refine (callsIn_wide.2 hin.out).mono ?_; rintro e w8 ⟨rfl, q8, hA8, hk8⟩; have ho8 := Lib.hid (hA7.out.bytes ho7.out hk8); have hS8 := Lib.hid (hS.out.step hA8.below); have hE8 := Lib.hid (show Errs w8 _ 37 from hA8.errs n1_good (small_t (by decide)) (by decide)); have hal8 := Lib.hid (All_err hE8.out); clear hin hA8 hk8 hA7 ho7 d0)
      | (refine ⟨trivial, ?_⟩; gi_at_call 34; refine (callsIn_wide.2 hal8.out).mono ?_; rintro e w9 ⟨rfl, hb9⟩; have hE9 := Lib.hid (hE8.out.step hb9); have hS9 := Lib.hid (hS8.out.step hb9); have ho9 := Lib.hid (own_below ho8.out hb9); have hsz := Lib.hid (Size_err hE9.out); clear hal8 hE8 hS8 ho8 hb9)
      | (refine ⟨trivial, ?_⟩; gi_at_call 35; refine (callsIn_wide.2 hsz.out).mono ?_; rintro e w10 ⟨rfl, hb10⟩; have hS10 := Lib.hid (hS9.out.step hb10); have ho10 := Lib.hid (own_below ho9.out hb10); have hba := (Below.refl w10.heap.size w10).alloc (Nat.le_refl _) (.cells #[.int .i64 0] 3); have hm10 := Lib.hid (cell_new_m w10 (.int .i64 0) 3).1; have hE10 := Lib.hid ((hE9.out.step hb10).step hba); have hLi := Lib.hid (Lines_err hE10.out); clear hsz hE9 hS9 ho9 hb10 hba)
      | (refine ⟨trivial, ?_⟩; gi_at_call 36; refine (callsIn_wide.2 hLi.out).mono ?_; rintro e w12 ⟨rfl, hb12⟩; have hb12 := Lib.hid hb12; have hLi2 := Lib.hid (Lines_err (hE10.out.step hb12.out)); clear hLi)
      | (refine ⟨trivial, ?_⟩; gi_at_call 36; refine (callsIn_wide.2 hLi2.out).mono ?_; rintro e w13 ⟨rfl, hb13⟩; have hb13 := Lib.hid (nextw hb12.out hb13); clear hLi2))
    have hba := (Below.refl w10.heap.size w10).alloc (Nat.le_refl _) (.cells #[.int .i64 0] 3)
    have hS13 := Lib.hid ((hS10.out.step hba).step hb13.out)
    have hm13 := Lib.hid (stepc hb13.out (by simp) hm10.out)
    have ho13 := Lib.hid (own_below (own_below ho10.out hba) hb13.out)
    clear hba hb12 hb13 hm10 ho10 hS10 hE10 hS c1
    refine wpIn_rangeFunc_ownF rfl (by omega) (gf := 73) (lb := #[]) rfl trivial (enters_of Tryd.func73 (by kernel_rfl) rfl)
      (lines0_in w13 w13 4 (by omega)) belowK_t (belowK_b (Nat.le_refl _)) (Below.refl _ _) (fun _ => rfl)
      (fun pre W => Below w13.heap.size w13 W) (fun _ _ _ => False) (ownFrom_below (Nat.le_refl _) (Nat.le_refl _)) (fun _ _ _ _ _ hs _ _ => hs) (Below.refl _ _) ?a2 ?assign2 ?body2 ?done2 ?stop2
    case assign2 =>
      intro l x W K hK
      gi_wp2
      exact hK
    case body2 =>
      intro l pre x W _ hlen
      exact absurd hlen (by simp)
    case stop2 =>
      rintro D c pre W _ _ h _
      exact h.elim
    case done2 =>
      rintro D2 ys2 W2 hD2 - hB2 hK2
      have hS2 := Lib.hid (hS13.out.step hB2)
      have hm2 := stepc hB2 (World.block_lt_of_cell? w13 _ hm13.out) hm13.out
      have ho2 := Lib.hid (own_below ho13.out hB2)
      have hml := World.block_lt_of_cell? W2 _ hm2
      simp only [] at hml
      have hK2 := Lib.hid hK2
      have hDD : D ≠ D2 := by
        have := (Array.getElem?_eq_some_iff.1 hS13.out.d).1
        omega
      have hw2 : w.heap.size ≤ D2 := Nat.le_trans hS13.out.b.size hD2
      clear hB2 hS13 hm13 ho13
      have hsm := Lib.hid (small10_any W2)
      gi_wp2_with (first
        | (refine ⟨trivial, ?_⟩; gi_at_call 39; refine (callsIn_wide.2 hsm.out).mono ?_; rintro e w14 ⟨q1, B1, C1, rfl, hA⟩; obtain ⟨g, rc, x0, x1, x2, hA2, hbs⟩ := bad_set hA; have hA2 := Lib.hid hA2; have hal := Lib.hid (All_err (bad_errs hA2.out)); clear hsm hA hbs)
        | (refine ⟨trivial, ?_⟩; gi_at_call 34; refine (callsIn_wide.2 hal.out).mono ?_; rintro e w15 ⟨rfl, hb15⟩; have hB15 := Lib.hid (nextw hA2.out.below hb15); have hcv := convE (own_below ho2.out hB15.out); have hm15 := stepc hB15.out hml hm2; have hte := Lib.hid (tells10_any (hPW.out _ (nextw hS2.out.b hB15.out))); clear hal hA2 hb15 x0 x1 x2)
        | (refine ⟨trivial, ?_⟩; gi_at_call 40; refine (callsIn_wide.2 hte.out).mono ?_; rintro e w16 ⟨rfl, hb16⟩; have hB16 := Lib.hid (nextw hB15.out hb16); have hS16 := Lib.hid (hS2.out.step hB16.out); have r0 := hS16.out.r.cell; have r1 := hS16.out.r.frozen))
      have hk2 := (KeepsOthers.setCell w16 ⟨w.heap.size, 0, none⟩ (.bool true)).same D2 _ (heap_step hK2.out hB16.out) rfl
      have hk1 := (KeepsOthers.setCell w16 ⟨w.heap.size, 0, none⟩ (.bool true)).same D _ hS16.out.d rfl
      have hR1 := hS16.out.r.set (.bool true)
      have hB1 := hS16.out.b.setCell (p := ⟨w.heap.size, 0, none⟩) (Nat.le_refl _) (.bool true)
      generalize w16.setCell ⟨w.heap.size, 0, none⟩ (.bool true) = wz at *
      have hk3 : (wz.putObj D2 (.deferred none)).heap[D]? = some (.deferred (some [])) := ((grownBy_putObj' wz D2 (.deferred none)).block D (Array.getElem?_eq_some_iff.1 hk1).1 (by simp [hDD])).trans hk1
      have hR2 := boxed_turn hR1 (grownBy_putObj' wz D2 (.deferred none)) (fun r e => by cases e; exact ⟨_, hk2, rfl⟩)
      have hR3 := boxed_turn hR2 (grownBy_putObj' _ D (.deferred none)) (fun r e => by cases e; exact ⟨_, hk3, rfl⟩)
      refine ⟨by simp, .inl ⟨_, _, rfl, run_takeDeferred hk2, ⟨by simp, .inl ⟨_, _, rfl, run_takeDeferred hk3, ?_⟩⟩⟩⟩
      exact ⟨.bool true, by simp [results, Tryd.f9, go_sem, hR3.cell], rfl, hB1.trans ((belowK_b (w := w) (Nat.le_refl _) _ D2 _ _ hw2 hk2 rfl rfl).trans (belowK_b (w := w) (Nat.le_refl _) _ D _ _ hwD hk3 rfl rfl))⟩
end Go.Proofs.YtnhpjacodhdpeaaDoor
end

section
namespace Go.Proofs.YtnhpjacodhdpeaaDoor
open Go.ChangeShapes Go.WideShapes Go.ChangeAt Go.RowKit
set_option maxRecDepth 100000

theorem tPow : (Tryd.prog.globals[1]?).map (·.type) = some 238 := by kernel_rfl
theorem pw_of_laid {W : World} (h : laidMetH Tryd.prog laid3 W) : PW W := by
  have h2 : laidMet Tryd.prog laid3 W := by
    have e := MakeChecks.laidMetH_plain Tryd.prog laid3 W (by kernel_rfl)
    rw [e] at h; exact h
  have h3 := h2.filter (fun x => x.1 == "internal/strconv.uint64pow10")
  have e : (laid3.filter fun x => x.1 == "internal/strconv.uint64pow10") = [("internal/strconv.uint64pow10", Lib.tabData .u64 Lib.pow10Tab)] := by kernel_rfl
  rw [e] at h3
  exact Lib.tabIs_of_head gPow tPow Tryd.underlying238 Tryd.underlying46 (by kernel_rfl) (by kernel_rfl) h3
end Go.Proofs.YtnhpjacodhdpeaaDoor
end

section
namespace Go.Proofs.YtnhpjacodhdpeaaDoor.emitKnown
open Go.ChangeShapes Go.WideShapes Go.ChangeAt Go.RowKit Go.Joins
open Go.ChangeMaps (open_string shut_string)
set_option linter.unusedVariables false

set_option maxRecDepth 100000 in
theorem lifted (os : Os) (started : os.Started) (H : Type) (enc : TypeId × Value → H) :
    ReturnsInHanded {} Tryd.checked os 9 .any (fun w args => (Rows.emitKnownSpec.pre enc Tryd.prog Tryd.f9 [] false w args ∧ laidMetH Tryd.prog laid3 w) ∧ sizedMet enc Tryd.prog Tryd.f9 (OpenSpec.ofChange Rows.emitKnownSpec) false w args) (Rows.emitKnownSpec.post enc Tryd.prog Tryd.f9 false true false false) := by
  refine returnsInHanded_of_change_and (C := Tryd.checked) (X := fun w _ => laidMetH Tryd.prog laid3 w) (fun _ _ _ hh h => h.of_heap hh) own started (by kernel_rfl) Tryd.func9
    (ChangeSpec.witness_shaped (enc := enc) (C := Tryd.checked) (os := os) (X := fun w _ => laidMetH Tryd.prog laid3 w) false (World.doorLaid Tryd.prog 4000 os) #[] 8 rfl (World.shaped_of_RefB (by kernel_rfl) (by kernel_rfl)) (by kernel_rfl) (by kernel_rfl) (by kernel_rfl) (door_met os _)) ?_
  intro W base args ds gs before hval0 hW _ hwt hL _
  have tz := tz_of_laid hL
  have hval : ∀ (j : Nat) t v, Tryd.f9.params[j]? = some t → args[j]? = some v → Value.okWide Tryd.prog W .any base t v := hval0
  have hW' := hW
  obtain ⟨p, q, hA0, hV, rfl, hfz, hnd⟩ := hW
  have hA : DataW.TrodAll enc Tryd.prog W 0 (fun _ => true) true Tryd.f9.params.toList args.toList ds p := hA0
  rw [Tryd.params9] at hA hval
  obtain ⟨rfl, rfl, rfl⟩ := trodAll_none hA
  obtain ⟨rfl, rfl⟩ := trodVars_none hV
  clear hA0 hval0
  refine (known10_any (pw_of_laid hL)).mono fun e W' ⟨he, bel⟩ => ?_
  subst he
  exact ⟨_, rfl, _, _, _, [], _, [], hW', trodAll_mk1 (shut_bool Tryd.underlying4 _), rfl, rfl, bel.frame _, fun h => by cases h⟩

theorem row_holds : Rows.EmitKnownSaid :=
  OpenClaim.holds_of_wide 9 Tryd.f9 rfl rfl rfl rfl rfl rfl rfl ⟨rfl, rfl, rfl, rfl, rfl⟩ rfl rfl rfl rfl rfl (by kernel_rfl) Tryd.func9 (by kernel_rfl)
    (of_decide_eq_true (by kernel_rfl)) (by unfold Func.isWrapper; first | (rw [if_pos (by decide +kernel)]; kernel_rfl) | (rw [if_neg (by decide +kernel)]; exact ⟨rfl, rfl⟩))
    (fun os started H enc _ => lifted os started H enc)

set_option maxRecDepth 100000 in
theorem holds : Rows.EmitKnownCardSaid :=
  Claim7.holds_tied_plain_at .later [] [.data, .data, .data] true Rows.emitKnownCard.stood.harness true
    row_holds (fun _ h => by cases h) (by kernel_rfl) (fun _ h => by cases h) emitKnown_row_tie rfl ⟨rfl, rfl⟩ (by kernel_rfl) rfl
    (fun f fn hf hfn => by
      obtain rfl : f = 9 := Option.some.inj ((show Tryd.prog.funcNamed "orrery/orrerylaw10.EmitKnown" = some 9 by kernel_rfl).symm.trans hf) |>.symm
      obtain rfl : fn = Tryd.f9 := (Option.some.inj (Tryd.func9.symm.trans hfn)).symm
      exact ⟨by kernel_rfl, fun j t ht => by
        rw [Tryd.params9] at ht
        simp at ht⟩)
    (by kernel_rfl)
#print axioms holds
end Go.Proofs.YtnhpjacodhdpeaaDoor.emitKnown
end
