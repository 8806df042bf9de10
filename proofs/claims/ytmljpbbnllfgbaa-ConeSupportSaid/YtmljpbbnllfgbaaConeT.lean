/-
  through: the walk, once for each function that it may be handed.
-/
import Derived.Test.YtmljpbbnllfgbaaConeA
namespace Go.Proofs.Ytmljpbbnllfgbaa
open Go.RowKit Go.Maps Num
set_option maxRecDepth 100000

/-- Rows of bools are kept. -/
def SameB (w w' : World) : Prop := ∀ base v n xs, w.ownsRow base 4 1 v n xs → w'.ownsRow base 4 1 v n xs
theorem SameB.below {w w' : World} (h : Below w.heap.size w w') : SameB w w' := fun _ _ _ _ ho => own_below ho h
theorem SameB.kept {F : Nat → Prop} {w w' : World} (h : Kept F w w') (hF : ∀ k, F k → ∀ cur, w.heap[k]? ≠ some (.cells cur 4 (0, 0))) : SameB w w' :=
  fun _ _ _ _ ho => own_keptF ho h (fun k e hk => by obtain ⟨cur, hh⟩ := own_type ho e; exact hF k hk cur hh)
theorem SameB.trans {a b c : World} (h : SameB a b) (k : SameB b c) : SameB a c := fun _ _ _ _ ho => k _ _ _ _ (h _ _ _ _ ho)

/-- What a function that is told each node must keep. -/
structure Met (B : Nat) (G : Gr) (l : List Int) (F : FuncId) (caps : Array Value) (Q : Nat → World → Prop) : Prop where
  is : ∀ i wr, Q i wr → ∃ p : Pl, p.b = B ∧ Is wr p G
  below : ∀ i wr w', Q i wr → Below wr.heap.size wr w' → Q i w'
  skip : ∀ i wr, Q i wr → ¬ (0 < i ∧ Leans G l i) → Q (i + 1) wr
  call : ∀ i wr, Q i wr → 0 < i → Leans G l i → Calls Try.prog F (#[.int .i64 i, .int .u32 (nodeAt G i).a, .int .u32 (nodeAt G i).b, .bool (nodeAt G i).gate] ++ caps) wr fun e w' => e = .returned (.int .i64 0) ∧ Q (i + 1) w' ∧ SameB wr w'

theorem Met.rest {B : Nat} {G : Gr} {l : List Int} {F : FuncId} {caps : Array Value} {Q : Nat → World → Prop} (h : Met B G l F caps Q) {bs : List Bool} (hL : Leant G l bs) {wr : World} (hQ : Q bs.length wr) : ∀ d, Q (bs.length + d) wr := by
  intro d
  induction d with
  | zero => exact hQ
  | succ d ih =>
    refine h.skip _ _ ih (fun hn => ?_)
    have := (hL (bs.length + d)).2 hn
    simp [List.getD] at this

theorem app1 (a b c d e : Value) : #[a, b, c, d] ++ #[e] = #[a, b, c, d, e] := rfl
theorem app2 (a b c d e f : Value) : #[a, b, c, d] ++ #[e, f] = #[a, b, c, d, e, f] := rfl
theorem app3 (a b c d e f g : Value) : #[a, b, c, d] ++ #[e, f, g] = #[a, b, c, d, e, f, g] := rfl

def Through (F : FuncId) (caps : Array Value) : Prop := ∀ (w : World) (B : Nat) (G : Gr) (a : Option Addr) (n c : Nat) (l : List Int) (Q : Nat → World → Prop), Met B G l F caps Q → Wf G → G.nodes.length ≤ 200000 → Row .u32 w a n l → AllThere G l → Q 0 w →
    Calls Try.prog 45 #[.pointer (some ⟨B, 0, none⟩), .func (.func F) #[] caps, .slice a n c] w fun e w' => e = .returned (.int .i64 0) ∧ Q G.nodes.length w'

set_option maxHeartbeats 1000000 in
theorem through_reach (q : Nat) : Through 51 #[.pointer (some ⟨q, 0, none⟩)] := by
  intro w B G a n c l Q hM hW hm hs hl hQ0
  have HM := Lib.hid hM
  have HW := Lib.hid hW
  have HL := Lib.hid hl
  have HS := Lib.hid hs
  have hck : Hid (∀ wr, Q 0 wr → Row .u32 wr a n l → Calls Try.prog 48 #[.pointer (some ⟨B, 0, none⟩), .slice a n c] wr fun e w' => e = .returned (.int .i64 0) ∧ Q 0 w' ∧ Row .u32 w' a n l) := Lib.hid (fun wr hQ hr => by
    obtain ⟨p, rfl, hI⟩ := hM.is _ _ hQ
    have := ccheck_any (c := c) hI hW hm hr (fun x hx => (hl x hx).1)
    rw [chk_ok hl] at this
    exact this.mono (fun e w' ⟨he, hb⟩ => ⟨he, hM.below _ _ _ hQ hb, hr.step hb⟩))
  have hle : Hid (∀ wr, Q 0 wr → Row .u32 wr a n l → Calls Try.prog 70 #[.pointer (some ⟨B, 0, none⟩), .slice a n c] wr fun e w' => ∃ (g m base : Nat) (bs : List Bool), e = .returned (.slice (some ⟨g, 0, none⟩) m m) ∧ Hid (w'.ownsRow base 4 1 (.slice (some ⟨g, 0, none⟩) m m) m (bs.map Value.bool)) ∧ bs.length = m ∧ m ≤ G.nodes.length ∧ Hid (Leant G l bs) ∧ Hid (Q 0 w')) := Lib.hid (fun wr hQ hr => by
    obtain ⟨p, rfl, hI⟩ := hM.is _ _ hQ
    exact (leaning_any hI hW hm hr hl).mono (fun e w' ⟨g, m, bs, he, ho, h1, h2, h3, hb⟩ => ⟨g, m, wr.heap.size, bs, he, Lib.hid ho, h1, h2, Lib.hid h3, Lib.hid (hM.below _ _ _ hQ hb)⟩))
  have hga : Hid (∀ j wr, j < G.nodes.length → Q j wr → Calls Try.prog 17 #[.pointer (some ⟨B, 0, none⟩), .int .i64 j] wr fun e w' => e = .returned (.tuple #[.int .u32 (nodeAt G j).a, .int .u32 (nodeAt G j).b, .bool (nodeAt G j).gate]) ∧ Q j w' ∧ SameB wr w') := Lib.hid (fun j wr hj hQ => by
    obtain ⟨p, rfl, hI⟩ := hM.is _ _ hQ
    exact (Gate_any hI hW hm hj).mono (fun e w' ⟨he, hb⟩ => ⟨he, hM.below _ _ _ hQ hb, SameB.below hb⟩))
  have hc1 := Lib.hid (hck.out _ hQ0 hs)
  clear hM hW hs hl hQ0 hck
  go_enter Try.func45, Try.ntmps45
  go_wp2_with (first
    | (go_at_call 48; (with_reducible refine hc1.out.mono ?_); rintro e w2 ⟨rfl, hQ2, hr2⟩; have hl1 := Lib.hid (hle.out _ hQ2 hr2); clear hQ2 hr2)
    | (go_at_call 70; (with_reducible refine hl1.out.mono ?_); rintro e w3 ⟨g, m, base, bs, rfl, ho, hbl, hmn, hLt, hQ3⟩))
  obtain ⟨w4, rfl⟩ : ∃ w4 : World, w4 = w3 := ⟨_, rfl⟩
  clear hc1 hl1 hle HS HL
  go_loopw [24] (fun s wr => ∃ j : Nat, j ≤ m ∧ s = .int .i64 j ∧ Hid (Q j wr) ∧ Hid (wr.ownsRow base 4 1 (.slice (some ⟨g, 0, none⟩) m m) m (bs.map Value.bool))) (fun s _ => m - (intOf s).toNat)
  case atStart => exact ⟨0, Nat.zero_le _, rfl, hQ3, ho⟩
  case round =>
    clear hQ3 ho
    obtain ⟨j, hj, rfl, hQ, ho⟩ := hrel
    by_cases hlt : j < m
    · have hcj : wr.cell? ⟨g, j, none⟩ = some (.bool (bs.getD j false)) := by
        rw [ho.out.cellAt (j := j) (by simp [hbl]; omega), List.getElem?_map]
        simp [List.getD, show j < bs.length by omega]
      have hlt2 := hLt.out j
      cases hbj : bs.getD j false with
      | false =>
        rw [hbj] at hcj hlt2
        have hQn := Lib.hid (HM.out.skip j wr hQ.out (fun h => by cases hlt2.2 h))
        clear hlt2
        go_wp2
        exact ⟨⟨j + 1, by omega, by go_num, hQn, ho⟩, by simp [intOf]; omega⟩
      | true =>
        rw [hbj] at hcj hlt2
        obtain ⟨hj0, hle⟩ := hlt2.1 rfl
        have hg1 := Lib.hid (hga.out j wr (by omega) hQ.out)
        have hcc0 := fun w5 (h : Q j w5) => HM.out.call j w5 h hj0 hle
        simp only [app1, app2, app3] at hcc0
        have hcc := Lib.hid hcc0
        clear hcc0
        clear hlt2 hle
        generalize (nodeAt G j).gate = ga at *
        generalize (nodeAt G j).a = na at *
        generalize (nodeAt G j).b = nb at *
        go_wp2_with (first
          | (go_at_call 17; (with_reducible refine hg1.out.mono ?_); rintro e w5 ⟨rfl, hQ5, hs5⟩; have ho5 := Lib.hid (hs5 _ _ _ _ ho.out); have hcc5 := Lib.hid (hcc.out _ hQ5); clear hQ5 hs5)
          | (go_at_call 51; (with_reducible refine hcc5.out.mono ?_); rintro e w6 ⟨rfl, hQ6, hs6⟩; have ho6 := Lib.hid (hs6 _ _ _ _ ho5.out); have hQ6 := Lib.hid hQ6; clear hs6))
        exact ⟨⟨j + 1, by omega, by go_num, hQ6, ho6⟩, by simp [intOf]; omega⟩
    · obtain rfl : j = m := by omega
      have hQn : Q G.nodes.length wr := by
        have h1 := hQ.out
        rw [← hbl] at h1
        have := HM.out.rest hLt.out h1 (G.nodes.length - bs.length)
        rw [show bs.length + (G.nodes.length - bs.length) = G.nodes.length by omega] at this
        exact this
      have hQn := Lib.hid hQn
      go_wp2
      go_ret
      exact ⟨rfl, hQn.out⟩
set_option maxHeartbeats 1000000 in
theorem through_support (q : Nat) : Through 52 #[.pointer (some ⟨q, 0, none⟩)] := by
  intro w B G a n c l Q hM hW hm hs hl hQ0
  have HM := Lib.hid hM
  have HW := Lib.hid hW
  have HL := Lib.hid hl
  have HS := Lib.hid hs
  have hck : Hid (∀ wr, Q 0 wr → Row .u32 wr a n l → Calls Try.prog 48 #[.pointer (some ⟨B, 0, none⟩), .slice a n c] wr fun e w' => e = .returned (.int .i64 0) ∧ Q 0 w' ∧ Row .u32 w' a n l) := Lib.hid (fun wr hQ hr => by
    obtain ⟨p, rfl, hI⟩ := hM.is _ _ hQ
    have := ccheck_any (c := c) hI hW hm hr (fun x hx => (hl x hx).1)
    rw [chk_ok hl] at this
    exact this.mono (fun e w' ⟨he, hb⟩ => ⟨he, hM.below _ _ _ hQ hb, hr.step hb⟩))
  have hle : Hid (∀ wr, Q 0 wr → Row .u32 wr a n l → Calls Try.prog 70 #[.pointer (some ⟨B, 0, none⟩), .slice a n c] wr fun e w' => ∃ (g m base : Nat) (bs : List Bool), e = .returned (.slice (some ⟨g, 0, none⟩) m m) ∧ Hid (w'.ownsRow base 4 1 (.slice (some ⟨g, 0, none⟩) m m) m (bs.map Value.bool)) ∧ bs.length = m ∧ m ≤ G.nodes.length ∧ Hid (Leant G l bs) ∧ Hid (Q 0 w')) := Lib.hid (fun wr hQ hr => by
    obtain ⟨p, rfl, hI⟩ := hM.is _ _ hQ
    exact (leaning_any hI hW hm hr hl).mono (fun e w' ⟨g, m, bs, he, ho, h1, h2, h3, hb⟩ => ⟨g, m, wr.heap.size, bs, he, Lib.hid ho, h1, h2, Lib.hid h3, Lib.hid (hM.below _ _ _ hQ hb)⟩))
  have hga : Hid (∀ j wr, j < G.nodes.length → Q j wr → Calls Try.prog 17 #[.pointer (some ⟨B, 0, none⟩), .int .i64 j] wr fun e w' => e = .returned (.tuple #[.int .u32 (nodeAt G j).a, .int .u32 (nodeAt G j).b, .bool (nodeAt G j).gate]) ∧ Q j w' ∧ SameB wr w') := Lib.hid (fun j wr hj hQ => by
    obtain ⟨p, rfl, hI⟩ := hM.is _ _ hQ
    exact (Gate_any hI hW hm hj).mono (fun e w' ⟨he, hb⟩ => ⟨he, hM.below _ _ _ hQ hb, SameB.below hb⟩))
  have hc1 := Lib.hid (hck.out _ hQ0 hs)
  clear hM hW hs hl hQ0 hck
  go_enter Try.func45, Try.ntmps45
  go_wp2_with (first
    | (go_at_call 48; (with_reducible refine hc1.out.mono ?_); rintro e w2 ⟨rfl, hQ2, hr2⟩; have hl1 := Lib.hid (hle.out _ hQ2 hr2); clear hQ2 hr2)
    | (go_at_call 70; (with_reducible refine hl1.out.mono ?_); rintro e w3 ⟨g, m, base, bs, rfl, ho, hbl, hmn, hLt, hQ3⟩))
  obtain ⟨w4, rfl⟩ : ∃ w4 : World, w4 = w3 := ⟨_, rfl⟩
  clear hc1 hl1 hle HS HL
  go_loopw [24] (fun s wr => ∃ j : Nat, j ≤ m ∧ s = .int .i64 j ∧ Hid (Q j wr) ∧ Hid (wr.ownsRow base 4 1 (.slice (some ⟨g, 0, none⟩) m m) m (bs.map Value.bool))) (fun s _ => m - (intOf s).toNat)
  case atStart => exact ⟨0, Nat.zero_le _, rfl, hQ3, ho⟩
  case round =>
    clear hQ3 ho
    obtain ⟨j, hj, rfl, hQ, ho⟩ := hrel
    by_cases hlt : j < m
    · have hcj : wr.cell? ⟨g, j, none⟩ = some (.bool (bs.getD j false)) := by
        rw [ho.out.cellAt (j := j) (by simp [hbl]; omega), List.getElem?_map]
        simp [List.getD, show j < bs.length by omega]
      have hlt2 := hLt.out j
      cases hbj : bs.getD j false with
      | false =>
        rw [hbj] at hcj hlt2
        have hQn := Lib.hid (HM.out.skip j wr hQ.out (fun h => by cases hlt2.2 h))
        clear hlt2
        go_wp2
        exact ⟨⟨j + 1, by omega, by go_num, hQn, ho⟩, by simp [intOf]; omega⟩
      | true =>
        rw [hbj] at hcj hlt2
        obtain ⟨hj0, hle⟩ := hlt2.1 rfl
        have hg1 := Lib.hid (hga.out j wr (by omega) hQ.out)
        have hcc0 := fun w5 (h : Q j w5) => HM.out.call j w5 h hj0 hle
        simp only [app1, app2, app3] at hcc0
        have hcc := Lib.hid hcc0
        clear hcc0
        clear hlt2 hle
        generalize (nodeAt G j).gate = ga at *
        generalize (nodeAt G j).a = na at *
        generalize (nodeAt G j).b = nb at *
        go_wp2_with (first
          | (go_at_call 17; (with_reducible refine hg1.out.mono ?_); rintro e w5 ⟨rfl, hQ5, hs5⟩; have ho5 := Lib.hid (hs5 _ _ _ _ ho.out); have hcc5 := Lib.hid (hcc.out _ hQ5); clear hQ5 hs5)
          | (go_at_call 52; (with_reducible refine hcc5.out.mono ?_); rintro e w6 ⟨rfl, hQ6, hs6⟩; have ho6 := Lib.hid (hs6 _ _ _ _ ho5.out); have hQ6 := Lib.hid hQ6; clear hs6))
        exact ⟨⟨j + 1, by omega, by go_num, hQ6, ho6⟩, by simp [intOf]; omega⟩
    · obtain rfl : j = m := by omega
      have hQn : Q G.nodes.length wr := by
        have h1 := hQ.out
        rw [← hbl] at h1
        have := HM.out.rest hLt.out h1 (G.nodes.length - bs.length)
        rw [show bs.length + (G.nodes.length - bs.length) = G.nodes.length by omega] at this
        exact this
      have hQn := Lib.hid hQn
      go_wp2
      go_ret
      exact ⟨rfl, hQn.out⟩
set_option maxHeartbeats 1000000 in
theorem through_depth (q r : Nat) : Through 54 #[.pointer (some ⟨q, 0, none⟩), .pointer (some ⟨r, 0, none⟩)] := by
  intro w B G a n c l Q hM hW hm hs hl hQ0
  have HM := Lib.hid hM
  have HW := Lib.hid hW
  have HL := Lib.hid hl
  have HS := Lib.hid hs
  have hck : Hid (∀ wr, Q 0 wr → Row .u32 wr a n l → Calls Try.prog 48 #[.pointer (some ⟨B, 0, none⟩), .slice a n c] wr fun e w' => e = .returned (.int .i64 0) ∧ Q 0 w' ∧ Row .u32 w' a n l) := Lib.hid (fun wr hQ hr => by
    obtain ⟨p, rfl, hI⟩ := hM.is _ _ hQ
    have := ccheck_any (c := c) hI hW hm hr (fun x hx => (hl x hx).1)
    rw [chk_ok hl] at this
    exact this.mono (fun e w' ⟨he, hb⟩ => ⟨he, hM.below _ _ _ hQ hb, hr.step hb⟩))
  have hle : Hid (∀ wr, Q 0 wr → Row .u32 wr a n l → Calls Try.prog 70 #[.pointer (some ⟨B, 0, none⟩), .slice a n c] wr fun e w' => ∃ (g m base : Nat) (bs : List Bool), e = .returned (.slice (some ⟨g, 0, none⟩) m m) ∧ Hid (w'.ownsRow base 4 1 (.slice (some ⟨g, 0, none⟩) m m) m (bs.map Value.bool)) ∧ bs.length = m ∧ m ≤ G.nodes.length ∧ Hid (Leant G l bs) ∧ Hid (Q 0 w')) := Lib.hid (fun wr hQ hr => by
    obtain ⟨p, rfl, hI⟩ := hM.is _ _ hQ
    exact (leaning_any hI hW hm hr hl).mono (fun e w' ⟨g, m, bs, he, ho, h1, h2, h3, hb⟩ => ⟨g, m, wr.heap.size, bs, he, Lib.hid ho, h1, h2, Lib.hid h3, Lib.hid (hM.below _ _ _ hQ hb)⟩))
  have hga : Hid (∀ j wr, j < G.nodes.length → Q j wr → Calls Try.prog 17 #[.pointer (some ⟨B, 0, none⟩), .int .i64 j] wr fun e w' => e = .returned (.tuple #[.int .u32 (nodeAt G j).a, .int .u32 (nodeAt G j).b, .bool (nodeAt G j).gate]) ∧ Q j w' ∧ SameB wr w') := Lib.hid (fun j wr hj hQ => by
    obtain ⟨p, rfl, hI⟩ := hM.is _ _ hQ
    exact (Gate_any hI hW hm hj).mono (fun e w' ⟨he, hb⟩ => ⟨he, hM.below _ _ _ hQ hb, SameB.below hb⟩))
  have hc1 := Lib.hid (hck.out _ hQ0 hs)
  clear hM hW hs hl hQ0 hck
  go_enter Try.func45, Try.ntmps45
  go_wp2_with (first
    | (go_at_call 48; (with_reducible refine hc1.out.mono ?_); rintro e w2 ⟨rfl, hQ2, hr2⟩; have hl1 := Lib.hid (hle.out _ hQ2 hr2); clear hQ2 hr2)
    | (go_at_call 70; (with_reducible refine hl1.out.mono ?_); rintro e w3 ⟨g, m, base, bs, rfl, ho, hbl, hmn, hLt, hQ3⟩))
  obtain ⟨w4, rfl⟩ : ∃ w4 : World, w4 = w3 := ⟨_, rfl⟩
  clear hc1 hl1 hle HS HL
  go_loopw [24] (fun s wr => ∃ j : Nat, j ≤ m ∧ s = .int .i64 j ∧ Hid (Q j wr) ∧ Hid (wr.ownsRow base 4 1 (.slice (some ⟨g, 0, none⟩) m m) m (bs.map Value.bool))) (fun s _ => m - (intOf s).toNat)
  case atStart => exact ⟨0, Nat.zero_le _, rfl, hQ3, ho⟩
  case round =>
    clear hQ3 ho
    obtain ⟨j, hj, rfl, hQ, ho⟩ := hrel
    by_cases hlt : j < m
    · have hcj : wr.cell? ⟨g, j, none⟩ = some (.bool (bs.getD j false)) := by
        rw [ho.out.cellAt (j := j) (by simp [hbl]; omega), List.getElem?_map]
        simp [List.getD, show j < bs.length by omega]
      have hlt2 := hLt.out j
      cases hbj : bs.getD j false with
      | false =>
        rw [hbj] at hcj hlt2
        have hQn := Lib.hid (HM.out.skip j wr hQ.out (fun h => by cases hlt2.2 h))
        clear hlt2
        go_wp2
        exact ⟨⟨j + 1, by omega, by go_num, hQn, ho⟩, by simp [intOf]; omega⟩
      | true =>
        rw [hbj] at hcj hlt2
        obtain ⟨hj0, hle⟩ := hlt2.1 rfl
        have hg1 := Lib.hid (hga.out j wr (by omega) hQ.out)
        have hcc0 := fun w5 (h : Q j w5) => HM.out.call j w5 h hj0 hle
        simp only [app1, app2, app3] at hcc0
        have hcc := Lib.hid hcc0
        clear hcc0
        clear hlt2 hle
        generalize (nodeAt G j).gate = ga at *
        generalize (nodeAt G j).a = na at *
        generalize (nodeAt G j).b = nb at *
        go_wp2_with (first
          | (go_at_call 17; (with_reducible refine hg1.out.mono ?_); rintro e w5 ⟨rfl, hQ5, hs5⟩; have ho5 := Lib.hid (hs5 _ _ _ _ ho.out); have hcc5 := Lib.hid (hcc.out _ hQ5); clear hQ5 hs5)
          | (go_at_call 54; (with_reducible refine hcc5.out.mono ?_); rintro e w6 ⟨rfl, hQ6, hs6⟩; have ho6 := Lib.hid (hs6 _ _ _ _ ho5.out); have hQ6 := Lib.hid hQ6; clear hs6))
        exact ⟨⟨j + 1, by omega, by go_num, hQ6, ho6⟩, by simp [intOf]; omega⟩
    · obtain rfl : j = m := by omega
      have hQn : Q G.nodes.length wr := by
        have h1 := hQ.out
        rw [← hbl] at h1
        have := HM.out.rest hLt.out h1 (G.nodes.length - bs.length)
        rw [show bs.length + (G.nodes.length - bs.length) = G.nodes.length by omega] at this
        exact this
      have hQn := Lib.hid hQn
      go_wp2
      go_ret
      exact ⟨rfl, hQn.out⟩
set_option maxHeartbeats 1000000 in
theorem through_copy (q r s : Nat) : Through 46 #[.pointer (some ⟨q, 0, none⟩), .pointer (some ⟨r, 0, none⟩), .pointer (some ⟨s, 0, none⟩)] := by
  intro w B G a n c l Q hM hW hm hs hl hQ0
  have HM := Lib.hid hM
  have HW := Lib.hid hW
  have HL := Lib.hid hl
  have HS := Lib.hid hs
  have hck : Hid (∀ wr, Q 0 wr → Row .u32 wr a n l → Calls Try.prog 48 #[.pointer (some ⟨B, 0, none⟩), .slice a n c] wr fun e w' => e = .returned (.int .i64 0) ∧ Q 0 w' ∧ Row .u32 w' a n l) := Lib.hid (fun wr hQ hr => by
    obtain ⟨p, rfl, hI⟩ := hM.is _ _ hQ
    have := ccheck_any (c := c) hI hW hm hr (fun x hx => (hl x hx).1)
    rw [chk_ok hl] at this
    exact this.mono (fun e w' ⟨he, hb⟩ => ⟨he, hM.below _ _ _ hQ hb, hr.step hb⟩))
  have hle : Hid (∀ wr, Q 0 wr → Row .u32 wr a n l → Calls Try.prog 70 #[.pointer (some ⟨B, 0, none⟩), .slice a n c] wr fun e w' => ∃ (g m base : Nat) (bs : List Bool), e = .returned (.slice (some ⟨g, 0, none⟩) m m) ∧ Hid (w'.ownsRow base 4 1 (.slice (some ⟨g, 0, none⟩) m m) m (bs.map Value.bool)) ∧ bs.length = m ∧ m ≤ G.nodes.length ∧ Hid (Leant G l bs) ∧ Hid (Q 0 w')) := Lib.hid (fun wr hQ hr => by
    obtain ⟨p, rfl, hI⟩ := hM.is _ _ hQ
    exact (leaning_any hI hW hm hr hl).mono (fun e w' ⟨g, m, bs, he, ho, h1, h2, h3, hb⟩ => ⟨g, m, wr.heap.size, bs, he, Lib.hid ho, h1, h2, Lib.hid h3, Lib.hid (hM.below _ _ _ hQ hb)⟩))
  have hga : Hid (∀ j wr, j < G.nodes.length → Q j wr → Calls Try.prog 17 #[.pointer (some ⟨B, 0, none⟩), .int .i64 j] wr fun e w' => e = .returned (.tuple #[.int .u32 (nodeAt G j).a, .int .u32 (nodeAt G j).b, .bool (nodeAt G j).gate]) ∧ Q j w' ∧ SameB wr w') := Lib.hid (fun j wr hj hQ => by
    obtain ⟨p, rfl, hI⟩ := hM.is _ _ hQ
    exact (Gate_any hI hW hm hj).mono (fun e w' ⟨he, hb⟩ => ⟨he, hM.below _ _ _ hQ hb, SameB.below hb⟩))
  have hc1 := Lib.hid (hck.out _ hQ0 hs)
  clear hM hW hs hl hQ0 hck
  go_enter Try.func45, Try.ntmps45
  go_wp2_with (first
    | (go_at_call 48; (with_reducible refine hc1.out.mono ?_); rintro e w2 ⟨rfl, hQ2, hr2⟩; have hl1 := Lib.hid (hle.out _ hQ2 hr2); clear hQ2 hr2)
    | (go_at_call 70; (with_reducible refine hl1.out.mono ?_); rintro e w3 ⟨g, m, base, bs, rfl, ho, hbl, hmn, hLt, hQ3⟩))
  obtain ⟨w4, rfl⟩ : ∃ w4 : World, w4 = w3 := ⟨_, rfl⟩
  clear hc1 hl1 hle HS HL
  go_loopw [24] (fun s wr => ∃ j : Nat, j ≤ m ∧ s = .int .i64 j ∧ Hid (Q j wr) ∧ Hid (wr.ownsRow base 4 1 (.slice (some ⟨g, 0, none⟩) m m) m (bs.map Value.bool))) (fun s _ => m - (intOf s).toNat)
  case atStart => exact ⟨0, Nat.zero_le _, rfl, hQ3, ho⟩
  case round =>
    clear hQ3 ho
    obtain ⟨j, hj, rfl, hQ, ho⟩ := hrel
    by_cases hlt : j < m
    · have hcj : wr.cell? ⟨g, j, none⟩ = some (.bool (bs.getD j false)) := by
        rw [ho.out.cellAt (j := j) (by simp [hbl]; omega), List.getElem?_map]
        simp [List.getD, show j < bs.length by omega]
      have hlt2 := hLt.out j
      cases hbj : bs.getD j false with
      | false =>
        rw [hbj] at hcj hlt2
        have hQn := Lib.hid (HM.out.skip j wr hQ.out (fun h => by cases hlt2.2 h))
        clear hlt2
        go_wp2
        exact ⟨⟨j + 1, by omega, by go_num, hQn, ho⟩, by simp [intOf]; omega⟩
      | true =>
        rw [hbj] at hcj hlt2
        obtain ⟨hj0, hle⟩ := hlt2.1 rfl
        have hg1 := Lib.hid (hga.out j wr (by omega) hQ.out)
        have hcc0 := fun w5 (h : Q j w5) => HM.out.call j w5 h hj0 hle
        simp only [app1, app2, app3] at hcc0
        have hcc := Lib.hid hcc0
        clear hcc0
        clear hlt2 hle
        generalize (nodeAt G j).gate = ga at *
        generalize (nodeAt G j).a = na at *
        generalize (nodeAt G j).b = nb at *
        go_wp2_with (first
          | (go_at_call 17; (with_reducible refine hg1.out.mono ?_); rintro e w5 ⟨rfl, hQ5, hs5⟩; have ho5 := Lib.hid (hs5 _ _ _ _ ho.out); have hcc5 := Lib.hid (hcc.out _ hQ5); clear hQ5 hs5)
          | (go_at_call 46; (with_reducible refine hcc5.out.mono ?_); rintro e w6 ⟨rfl, hQ6, hs6⟩; have ho6 := Lib.hid (hs6 _ _ _ _ ho5.out); have hQ6 := Lib.hid hQ6; clear hs6))
        exact ⟨⟨j + 1, by omega, by go_num, hQ6, ho6⟩, by simp [intOf]; omega⟩
    · obtain rfl : j = m := by omega
      have hQn : Q G.nodes.length wr := by
        have h1 := hQ.out
        rw [← hbl] at h1
        have := HM.out.rest hLt.out h1 (G.nodes.length - bs.length)
        rw [show bs.length + (G.nodes.length - bs.length) = G.nodes.length by omega] at this
        exact this
      have hQn := Lib.hid hQn
      go_wp2
      go_ret
      exact ⟨rfl, hQn.out⟩
end Go.Proofs.Ytmljpbbnllfgbaa
