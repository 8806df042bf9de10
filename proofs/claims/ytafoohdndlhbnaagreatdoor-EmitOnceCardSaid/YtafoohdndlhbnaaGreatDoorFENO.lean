/-
  Package emit: All's text as a string; the chapter's netlist, its rows (tells).
  The document's own graph (orreryref03): where it lies; New, Input, inputs, Gates, gate.
  The document's own graph: Not, Fold, gate, Raw, and.
  The document's own graph: Two, both.
-/
import Derived.Test.YtafoohdndlhbnaaGreatDoorFENN
import Derived.Laws.IdiomStrings
import Derived.Test.YtafoohdndlhbnaaGreatDoorFENF
section
namespace Go.Proofs.YtafoohdndlhbnaaGreatDoor
open Go.RowKit Go.Maps Bits Go.Shelf
set_option maxRecDepth 100000
set_option linter.unusedVariables false

theorem textN_pos (N : Nt) : 0 < (textN N).length := by
  unfold textN linesL
  rw [List.flatMap_cons, List.length_append, List.length_append, List.length_cons]
  omega
def codeQ (ck : Int) (T : List UInt8) : Int := if ck = 0 then (if T.length ≤ 16777216 then 0 else 3) else ck
def strQ (ck : Int) (T : List UInt8) : ByteArray := if ck = 0 ∧ T.length ≤ 16777216 then ⟨T.toArray⟩ else ⟨#[]⟩
theorem conv_nil (W : World) : (convert 29 9 (.slice none 0 0)).run Tryz.prog W = .ok (.string ⟨#[]⟩) W := by kernel_rfl
/-- A row of bytes as a string. -/
def ConvQ (w' : World) (va : Value) (S : ByteArray) : Prop := ∀ W, Below w'.heap.size w' W → (convert 29 9 va).run Tryz.prog W = .ok (.string S) W
theorem ConvQ.step {w w' : World} {va : Value} {S : ByteArray} (h : ConvQ w va S) (hb : Below w.heap.size w w') : ConvQ w' va S := fun W hW => h W (nextw hb hW)
theorem AllQ.tell {w w' : World} {ck : Int} {T : List UInt8} {va : Value} {c : Int} (h : AllQ w w' ck T va c) (hT : 0 < T.length) :
    c = codeQ ck T ∧ (∃ a cap, va = .slice a (strQ ck T).size cap) ∧ ConvQ w' va (strQ ck T) := by
  rcases h with ⟨h0, rfl, rfl⟩ | ⟨rfl, hl, rfl, ho⟩ | ⟨rfl, hl, rfl, rfl⟩
  · rw [show strQ c T = ⟨#[]⟩ by simp [strQ, h0]]
    exact ⟨by simp [codeQ, h0], ⟨none, 0, rfl⟩, fun W hW => conv_nil W⟩
  · rw [show strQ 0 T = ⟨T.toArray⟩ by simp [strQ, hl]]
    obtain ⟨g, cap, rfl⟩ := own_form ho (by omega)
    refine ⟨by simp [codeQ, hl], ⟨_, cap, rfl⟩, fun W hW => ?_⟩
    have ho2 := own_below ho hW
    refine run_convert_bytes_back W _ _ 5 _ cap T Tryz.underlying29 Tryz.underlying5 Tryz.underlying9 (fun j hj => ?_)
    rw [show (⟨g, 0, none⟩ : Addr).add j = ⟨g, j, none⟩ by simp [Addr.add]; omega, ho2.cellAt (j := j) (by omega)]
    simp [bys, hj]
  · rw [show strQ 0 T = ⟨#[]⟩ by simp [strQ]; omega]
    exact ⟨by simp [codeQ]; omega, ⟨none, 0, rfl⟩, fun W hW => conv_nil W⟩
theorem All_tell {w : World} {q : NPl} {N : Nt} {rest : List Int} (h : NetIs w q N) (hg : Good N rest) (hS : Small N) (ht : PW w) :
    Calls Tryz.prog 10 #[.pointer (some ⟨q.b, 0, none⟩)] w fun e w' => ∃ a cap, e = .returned (.tuple #[.slice a (strQ (ckV rest) (textN N)).size cap, .int .i64 (codeQ (ckV rest) (textN N))]) ∧ ConvQ w' (.slice a (strQ (ckV rest) (textN N)).size cap) (strQ (ckV rest) (textN N)) ∧ Below w.heap.size w w' := by
  refine (All_good h hg hS ht).mono ?_
  rintro e w' ⟨va, c, rfl, hQ, hB⟩
  obtain ⟨rfl, ⟨a, cap, rfl⟩, hc⟩ := hQ.tell (textN_pos N)
  exact ⟨a, cap, rfl, hc, hB⟩

abbrev sT5 : ByteArray := ⟨#[46, 109, 111, 100, 101, 108, 32, 116, 111, 112, 10, 46, 105, 110, 112, 117, 116, 32, 97, 32, 50, 32, 52, 10, 46, 108, 97, 116, 99, 104, 32, 54, 32, 56, 32, 49, 32, 49, 10, 46, 97, 110, 100, 32, 56, 32, 54, 32, 50, 10, 46, 111, 117, 116, 112, 117, 116, 32, 120, 32, 57, 10, 46, 101, 110, 100, 10]⟩
theorem text5 : textN t5 = [46, 109, 111, 100, 101, 108, 32, 116, 111, 112, 10, 46, 105, 110, 112, 117, 116, 32, 97, 32, 50, 32, 52, 10, 46, 108, 97, 116, 99, 104, 32, 54, 32, 56, 32, 49, 32, 49, 10, 46, 97, 110, 100, 32, 56, 32, 54, 32, 50, 10, 46, 111, 117, 116, 112, 117, 116, 32, 120, 32, 57, 10, 46, 101, 110, 100, 10] := by kernel_rfl
theorem str5 : strQ (ckV []) (textN t5) = sT5 := by rw [text5]; rfl
theorem code5 : codeQ (ckV []) (textN t5) = 0 := by rw [text5]; rfl
theorem all5 {w0 w : World} {B C : Nat} {q : NPl} (h : AtN w0 B C w q t5) (ht : PW w) :
    Calls Tryz.prog 10 #[.pointer (some ⟨B, 0, none⟩)] w fun e w' => ∃ a cap, e = .returned (.tuple #[.slice a 67 cap, .int .i64 0]) ∧ ConvQ w' (.slice a 67 cap) sT5 ∧ Below w.heap.size w w' := by
  have h1 := All_tell h.is t5_good (small_t (by decide)) ht
  rw [str5, code5, h.b] at h1
  exact h1
theorem size5 {w0 w : World} {B C : Nat} {q : NPl} (h : AtN w0 B C w q t5) (ht : PW w) :
    Calls Tryz.prog 12 #[.pointer (some ⟨B, 0, none⟩)] w fun e w' => e = .returned (.tuple #[.int .i64 67, .int .i64 0]) ∧ Below w.heap.size w w' := by
  have h1 := Size_good h.is t5_good (small_t (by decide)) ht
  rw [text5, h.b] at h1
  exact h1
set_option maxHeartbeats 4000000 in
theorem small10_any (w : World) : Calls Tryz.prog 47 #[] w fun e w' => ∃ (q : NPl) (B C : Nat), e = .returned (.pointer (some ⟨B, 0, none⟩)) ∧ AtN w B C w' q t5 := by
  have hnew := Lib.hid (AtN.new w (Below.refl w.heap.size w) false false top_may)
  go_enter Tryz.func47, Tryz.ntmps47
  go_wp2_with (first
    | (go_at_call 38; refine hnew.out.mono ?_; rintro e w2 ⟨q0, B, C, rfl, hA0⟩; obtain ⟨c0, c1⟩ := hA0.cells; have hk1 := Lib.hid (hA0.addIn t0_good.wf (by decide) (by decide) e1))
    | (go_at_call 67; (with_reducible refine hk1.out.mono ?_); rintro e w3 ⟨a, c, q1, rfl, hA1'⟩; have hA1 : AtL w B C a 2 c [2, 4] w3 q1 t1 := hA1'; clear hA1'; have hk2 := Lib.hid (hA1.addReg t1_good.wf (by decide) (by decide) e2); clear hk1)
    | (go_at_call 74; (with_reducible refine hk2.out.mono ?_); rintro e w4 ⟨q2, rfl, hA2⟩; obtain ⟨c2, c3⟩ := hA2.at_.cells; have hk3 := Lib.hid (hA2.and t2_good (by decide) lit2 lit6 e3); clear hk2)
    | (go_at_call 69; (with_reducible refine hk3.out.mono ?_); rintro e w5 ⟨q3, rfl, hA3⟩; have hk4 := Lib.hid (hA3.setReg t3_good.wf lit8 lit1 e4); clear hk3)
    | (go_at_call 75; (with_reducible refine hk4.out.mono ?_); rintro e w6 ⟨q4, rfl, hA4⟩; have hk5 := Lib.hid (hA4.addOut1 t4_good.wf (by decide) lit9 e5); clear hk4)
    | (go_at_call 76; (with_reducible refine hk5.out.mono ?_); rintro e w7 ⟨q5, rfl, hA5⟩; clear hk5))
  go_ret
  exact ⟨q5, B, C, rfl, hA5.at_⟩
set_option maxHeartbeats 4000000 in
theorem tells10_any {w : World} (ht : PW w) : Calls Tryz.prog 16 #[] w fun e w' => e = .returned (.bool true) ∧ Below w.heap.size w w' := by
  have hsm := Lib.hid (small10_any w)
  have hPW := Lib.hid (fun W (hb : Below w.heap.size w W) => ht.step hb)
  go_enter Tryz.func16, Tryz.ntmps16
  go_wp2_with (first
    | (go_at_call 47; (with_reducible refine hsm.out.mono ?_); rintro e w2 ⟨q, B, C, rfl, hA⟩; have hal := Lib.hid (all5 hA (hPW.out _ hA.below)); have hA := Lib.hid hA; clear hsm)
    | (go_at_call 10; (with_reducible refine hal.out.mono ?_); rintro e w3 ⟨a, cap, rfl, hcv, hb3⟩; have hA3 := Lib.hid (hA.out.step hb3); have hsz := Lib.hid (size5 hA3.out (hPW.out _ hA3.out.below)); have hcv := Lib.hid hcv; clear hal hb3 hA)
    | (go_at_call 12; (with_reducible refine hsz.out.mono ?_); rintro e w4 ⟨rfl, hb4⟩; have hc4 := hcv.out _ hb4; have hA4 := Lib.hid (hA3.out.step hb4); clear hsz hb4 hA3))
  go_ret
  exact ⟨rfl, hA4.out.below⟩
end Go.Proofs.YtafoohdndlhbnaaGreatDoor
end

section
namespace Go.Proofs.YtafoohdndlhbnaaGreatDoor
open Go.RowKit Go.Maps
set_option maxRecDepth 100000

def rNd (n : Nd) : List Value := [.bool (!n.gate), .int .u32 n.a, .int .u32 n.b]
def rCells : List Nd → List Value
  | [] => []
  | _ :: ns => [.bool false, .int .u32 0, .int .u32 0] ++ ns.flatMap rNd
theorem rCells_push (ns : List Nd) (h : 0 < ns.length) (n : Nd) : rCells (ns ++ [n]) = rCells ns ++ rNd n := by
  cases ns with
  | nil => simp at h
  | cons m ns => simp [rCells]
theorem rTail_len (ns : List Nd) : (ns.flatMap rNd).length = ns.length * 3 := by
  induction ns with
  | nil => rfl
  | cons n ns ih => rw [List.flatMap_cons, List.length_append, ih]; simp [rNd]; omega
theorem rCells_len (ns : List Nd) : (rCells ns).length = ns.length * 3 := by
  cases ns with
  | nil => rfl
  | cons m ns => simp only [rCells, List.length_append, rTail_len, List.length_cons, List.length_nil]; omega
theorem rTail_at (ns : List Nd) (i : Nat) (n : Nd) (h : ns[i]? = some n) : (ns.flatMap rNd)[i * 3]? = some (.bool (!n.gate)) ∧ (ns.flatMap rNd)[i * 3 + 1]? = some (.int .u32 n.a) ∧ (ns.flatMap rNd)[i * 3 + 2]? = some (.int .u32 n.b) := by
  induction ns generalizing i with
  | nil => simp at h
  | cons m ns ih =>
    rw [List.flatMap_cons]
    match i with
    | 0 => simp at h; subst h; exact ⟨rfl, rfl, rfl⟩
    | i + 1 =>
      have := ih i (by simpa using h)
      have hl : (rNd m).length = 3 := rfl
      rw [List.getElem?_append_right (by omega), List.getElem?_append_right (by omega), List.getElem?_append_right (by omega)]
      rw [show (i + 1) * 3 - (rNd m).length = i * 3 by omega, show (i + 1) * 3 + 1 - (rNd m).length = i * 3 + 1 by omega, show (i + 1) * 3 + 2 - (rNd m).length = i * 3 + 2 by omega]
      exact this
theorem rCells_at (ns : List Nd) (i : Nat) (n : Nd) (h0 : 0 < i) (h : ns[i]? = some n) : (rCells ns)[i * 3]? = some (.bool (!n.gate)) ∧ (rCells ns)[i * 3 + 1]? = some (.int .u32 n.a) ∧ (rCells ns)[i * 3 + 2]? = some (.int .u32 n.b) := by
  cases ns with
  | nil => simp at h
  | cons m ns =>
    obtain ⟨i, rfl⟩ : ∃ k, i = k + 1 := ⟨i - 1, by omega⟩
    have := rTail_at ns i n (by simpa using h)
    have hl : ([.bool false, .int .u32 0, .int .u32 0] : List Value).length = 3 := rfl
    simp only [rCells]
    rw [List.getElem?_append_right (by omega), List.getElem?_append_right (by omega), List.getElem?_append_right (by omega)]
    rw [show (i + 1) * 3 - ([.bool false, .int .u32 0, .int .u32 0] : List Value).length = i * 3 by omega, show (i + 1) * 3 + 1 - ([.bool false, .int .u32 0, .int .u32 0] : List Value).length = i * 3 + 1 by omega, show (i + 1) * 3 + 2 - ([.bool false, .int .u32 0, .int .u32 0] : List Value).length = i * 3 + 2 by omega]
    exact this

/-- A document's graph that a call has made for itself. -/
structure Rf (w0 w : World) (B g c : Nat) (F H : Bool) (ns : List Nd) : Prop where
  box : w.heap[B]? = some (.cells #[.bool F, .bool H, .slice (some ⟨g, 0, none⟩) ns.length c] 117 (0, 0))
  row : w.ownsRow w0.heap.size 119 3 (.slice (some ⟨g, 0, none⟩) ns.length c) ns.length (rCells ns)
  lo : w0.heap.size ≤ B
  below : Below w0.heap.size w0 w
  pos : 0 < ns.length

/-- The document's graphs' blocks. -/
def RK (w : World) (k : Nat) : Prop := ∃ cur T fz, w.heap[k]? = some (.cells cur T fz) ∧ (T = 117 ∨ T = 119)
theorem RK.trans {a b c : World} (h : Kept (RK a) a b) (k : Kept (RK b) b c) : Kept (RK a) a c :=
  h.trans k (fun x hx => by
    by_cases hl : x < a.heap.size
    · by_cases hn : RK a x
      · exact .inl hn
      · obtain ⟨cur, T, fz, h1, h2⟩ := hx
        rw [h.block x hl hn] at h1
        exact absurd ⟨cur, T, fz, h1, h2⟩ hn
    · exact .inr (by omega))
theorem RK.refl (w : World) : Kept (RK w) w w := Kept.refl _ _
theorem RK.of_below {w w2 : World} (h : Below w.heap.size w w2) : Kept (RK w) w w2 := Kept.of_below h

theorem Rf.blt {w0 w : World} {B g c : Nat} {F H : Bool} {ns : List Nd} (h : Rf w0 w B g c F H ns) : B < w.heap.size := (Array.getElem?_eq_some_iff.1 h.box).1
theorem Rf.glt {w0 w : World} {B g c : Nat} {F H : Bool} {ns : List Nd} (h : Rf w0 w B g c F H ns) : g < w.heap.size := own_lt h.row
theorem Rf.gty {w0 w : World} {B g c : Nat} {F H : Bool} {ns : List Nd} (h : Rf w0 w B g c F H ns) : ∃ cur, w.heap[g]? = some (.cells cur 119 (0, 0)) := own_type h.row rfl
theorem Rf.ne {w0 w : World} {B g c : Nat} {F H : Bool} {ns : List Nd} (h : Rf w0 w B g c F H ns) : B ≠ g := by
  obtain ⟨cur, hc⟩ := h.gty
  intro e
  have := h.box
  rw [e, hc] at this; simp at this
theorem Rf.step {w0 w w2 : World} {B g c : Nat} {F H : Bool} {ns : List Nd} (h : Rf w0 w B g c F H ns) (hb : Below w.heap.size w w2) : Rf w0 w2 B g c F H ns :=
  ⟨(hb.block _ h.blt).trans h.box, own_below h.row hb, h.lo, nextw h.below hb, h.pos⟩
theorem Rf.cells {w0 w : World} {B g c : Nat} {F H : Bool} {ns : List Nd} (h : Rf w0 w B g c F H ns) :
    w.cell? ⟨B, 0, none⟩ = some (.bool F) ∧ w.cell? ⟨B, 1, none⟩ = some (.bool H) ∧ w.cell? ⟨B, 2, none⟩ = some (.slice (some ⟨g, 0, none⟩) ns.length c) ∧ ∀ o, w.frozen? ⟨B, o, none⟩ = false := by
  have hb := h.box
  refine ⟨?_, ?_, ?_, fun o => ?_⟩ <;> simp [World.cell?, World.frozen?, hb]
theorem Rf.node {w0 w : World} {B g c : Nat} {F H : Bool} {ns : List Nd} (h : Rf w0 w B g c F H ns) {i : Nat} (h0 : 0 < i) (hi : i < ns.length) :
    w.cell? ⟨g, i * 3, none⟩ = some (.bool (!(ns.getD i ⟨false, 0, 0⟩).gate)) ∧ w.cell? ⟨g, i * 3 + 1, none⟩ = some (.int .u32 (ns.getD i ⟨false, 0, 0⟩).a) ∧ w.cell? ⟨g, i * 3 + 2, none⟩ = some (.int .u32 (ns.getD i ⟨false, 0, 0⟩).b) := by
  obtain ⟨e0, e1, e2⟩ := rCells_at ns i (ns.getD i ⟨false, 0, 0⟩) h0 (by simp [List.getD, hi])
  rw [h.row.cellAt _ (by omega), h.row.cellAt _ (by omega), h.row.cellAt _ (by omega)]
  exact ⟨e0, e1, e2⟩
/-- Kept while blocks of other types change. -/
theorem Rf.kept {w0 w w2 : World} {B g c : Nat} {F H : Bool} {ns : List Nd} (h : Rf w0 w B g c F H ns) {K : Nat → Prop} (hk : Kept K w w2) (hK : ∀ k, K k → w0.heap.size ≤ k) (h1 : ¬ K B) (h2 : ¬ K g) : Rf w0 w2 B g c F H ns :=
  ⟨(hk.block _ h.blt h1).trans h.box, own_keptF h.row hk (fun k e => by simp [Value.ownBlock] at e; subst e; exact h2), h.lo, h.below.trans (hk.below hK h.below.size), h.pos⟩
theorem Rf.aside {w0 w w2 : World} {B g c : Nat} {F H : Bool} {ns : List Nd} (h : Rf w0 w B g c F H ns) {p : Pl} {G : Gr} (hI : Is w p G) (hp : ∀ k, p.has k → w0.heap.size ≤ k) (hk : Kept p.has w w2) : Rf w0 w2 B g c F H ns := by
  obtain ⟨cur, hc⟩ := h.gty
  exact h.kept hk hp (hI.other h.box (by decide) (by decide) (by decide)) (hI.other hc (by decide) (by decide) (by decide))
theorem AtG.aside {w0 w w2 : World} {B : Nat} {p : Pl} {G : Gr} (h : AtG w0 B w p G) (hk : Kept (RK w) w w2) (hb : Below w0.heap.size w0 w2) : AtG w0 B w2 p G :=
  ⟨h.is.beside hk (fun k ⟨cur, T, fz, hc, hT⟩ => h.is.other hc (by rcases hT with rfl | rfl <;> decide) (by rcases hT with rfl | rfl <;> decide) (by rcases hT with rfl | rfl <;> decide)), h.wf, h.b, h.out, hb, h.len⟩

/-- Behind the append and the store. -/
theorem rf_next {w0 w wa w1 : World} {B g c : Nat} {F H : Bool} {ns : List Nd} (h : Rf w0 w B g c F H ns) (hb : Below w.heap.size w wa) (n : Nd) {g1 cap1 : Nat}
    (hown : w1.ownsRow w0.heap.size 119 3 (.slice (some ⟨g1, 0, none⟩) (ns.length + 1) cap1) (ns.length + 1) (rCells ns ++ [.bool (!n.gate), .int .u32 n.a, .int .u32 n.b]))
    (hg : wa.grownBy w1 (some g)) (hat : some g = some g1 ∨ g1 = wa.heap.size) :
    Rf w0 (w1.setCell ⟨B, 2, none⟩ (.slice (some ⟨g1, 0, none⟩) (ns.length + 1) cap1)) B g1 cap1 F H (ns ++ [n])
      ∧ Kept (RK w) w (w1.setCell ⟨B, 2, none⟩ (.slice (some ⟨g1, 0, none⟩) (ns.length + 1) cap1)) := by
  have hlt := h.blt
  have hsz := hb.size
  have hne := h.ne
  obtain ⟨cur, hcur⟩ := h.gty
  have hbox1 : w1.heap[B]? = some (.cells #[.bool F, .bool H, .slice (some ⟨g, 0, none⟩) ns.length c] 117 (0, 0)) := by
    rw [hg.block B (by omega) (by simpa using hne), hb.block _ hlt]; exact h.box
  have hgb : g1 ≠ B := by
    rcases hat with e | e
    · simp at e; omega
    · omega
  have hK : Kept (RK w) w (w1.setCell ⟨B, 2, none⟩ (.slice (some ⟨g1, 0, none⟩) (ns.length + 1) cap1)) := by
    refine ⟨hg.os.trans hb.os, hg.tape.trans hb.tape, hg.output.trans hb.output, by have := hg.size; simp [World.setCell]; omega, fun k hk hn => ?_⟩
    have n1 : k ≠ B := fun e => hn (by subst e; exact ⟨_, _, _, h.box, .inl rfl⟩)
    have n2 : k ≠ g := fun e => hn (by subst e; exact ⟨_, _, _, hcur, .inr rfl⟩)
    rw [Below.heap_setCell _ _ _ _ n1, hg.block k (by omega) (by simpa using n2), hb.block k hk]
  refine ⟨⟨?_, ?_, h.lo, ?_, by simp⟩, hK⟩
  · have := box_set (o := 2) hbox1 (.slice (some ⟨g1, 0, none⟩) (ns.length + 1) cap1)
    simpa using this
  · rw [rCells_push _ h.pos, List.length_append, List.length_singleton]
    refine ⟨hown.1, ?_⟩
    rcases hown.2 with h0 | ⟨g', cap', cur', hv, hg', hh, r⟩
    · exact .inl h0
    · simp at hv
      obtain ⟨rfl, rfl⟩ := hv
      exact .inr ⟨_, _, cur', rfl, hg', by rw [Below.heap_setCell _ _ _ _ hgb]; exact hh, r⟩
  · have h1 : Below w0.heap.size w0 w1 := (nextw h.below hb).grown hg (Nat.le_trans h.below.size hsz) (fun k hk => by
      cases hk
      have := own_ge h.row g rfl
      exact this)
    exact h1.setCell h.lo _

theorem info_rnode : (Tryz.prog.info? 119).map (fun i => (i.zero, i.size, i.bytes)) = some (some (.agg #[.bool false, .int .u32 0, .int .u32 0]), 3, 12) := by kernel_rfl

theorem rnew_any (F H : Bool) (w0 w : World) (h0 : Below w0.heap.size w0 w) :
    Calls Tryz.prog 101 #[.bool F, .bool H] w fun e w' => ∃ B g c, e = .returned (.pointer (some ⟨B, 0, none⟩)) ∧ Rf w0 w' B g c F H [⟨false, 0, 0⟩] ∧ Below w.heap.size w w' := by
  obtain ⟨i0, hi, hz0, hz1, hz2⟩ := info_parts info_rnode
  go_enter Tryz.func101, Tryz.ntmps101
  go_wp2_with (at_make; refine wpList_make_full _ rfl _ _ 115 rfl w.heap.size 119 i0 (.agg #[.bool false, .int .u32 0, .int .u32 0]) 3 Tryz.underlying115 hi hz0 hz1 .i64 .i64 1 1 1 rfl rfl rfl rfl (by rw [hz2]; omega) (by unfold maxLen; omega) (Nat.le_refl _) ?_; intro w1 hown hg; have hB1 : Below w.heap.size w w1 := (Below.refl w.heap.size w).grown hg (Nat.le_refl _) (fun _ h => by cases h))
  go_ret
  refine ⟨w1.heap.size, w.heap.size, 1, rfl, ⟨Deep.blk_alloc_new _ _, ?_, Nat.le_trans h0.size hB1.size, nextw h0 (hB1.alloc hB1.size _), by simp⟩, hB1.alloc hB1.size _⟩
  have e : (madeCells (Value.agg #[Value.bool false, Value.int IntKind.u32 0, Value.int IntKind.u32 0]).cells (1 * 3)).toList = rCells [⟨false, 0, 0⟩] := by kernel_rfl
  rw [e] at hown
  exact own_base (hown.alloc _) h0.size

/-- How many inputs there are below i. -/
def cI (ns : List Nd) : Nat → Nat
  | 0 => 0
  | i + 1 => cI ns i + if (decide (0 < i) && !(ns.getD i ⟨false, 0, 0⟩).gate) = true then 1 else 0
theorem cI_lt (ns : List Nd) (i : Nat) : cI ns (i + 1) ≤ i := by
  induction i with
  | zero => simp [cI]
  | succ i ih => rw [cI]; split <;> omega
theorem rinputs_any {w0 w : World} {B g c : Nat} {F H : Bool} {ns : List Nd} (h : Rf w0 w B g c F H ns) (hm : ns.length ≤ 200000) :
    Calls Tryz.prog 270 #[.pointer (some ⟨B, 0, none⟩)] w fun e w' => e = .returned (.int .i64 (cI ns ns.length)) ∧ w = w' := by
  obtain ⟨-, -, c2, -⟩ := h.cells
  have hn := Lib.hid (fun i (h0 : 0 < i) (hi : i < ns.length) => (h.node h0 hi).1)
  have hp := h.pos
  generalize hk : ns.length = k at *
  have hs := Lib.hid (fun i (h0 : 0 < i) => show cI ns (i + 1) = cI ns i + if (!(ns.getD i ⟨false, 0, 0⟩).gate) = true then 1 else 0 by simp [cI, h0])
  have hl := Lib.hid (cI_lt ns)
  have h1 := Lib.hid (show cI ns 1 = 0 from by simp [cI])
  generalize cI ns = C at *
  clear h hk
  go_enter Tryz.func270, Tryz.ntmps270
  go_wp2
  go_loopw [3, 4] (fun s3 s4 wr => wr = w ∧ ∃ i : Nat, s4 = .int .i64 i ∧ s3 = .int .i64 (C i) ∧ 0 < i ∧ i ≤ k) (fun _ s4 _ => k - (intOf s4).toNat)
  case atStart => exact ⟨rfl, 1, rfl, by rw [h1.out]; rfl, by omega, by omega⟩
  case round =>
    obtain ⟨rfl, i, rfl, rfl, h0, hi⟩ := hrel
    by_cases hlt : i < k
    · have hc := hn.out i h0 hlt
      have hsi := Lib.hid (hs.out i h0)
      have hli := Lib.hid (hl.out i)
      have hCi : C i ≤ i := by have := hsi.out; have := hli.out; omega
      generalize (!(ns.getD i ⟨false, 0, 0⟩).gate) = b at *
      generalize C i = m at *
      cases b with
      | false =>
        go_wp2
        go_roundw
        case rel => exact ⟨trivial, i + 1, by go_num, by rw [hsi.out]; rfl, by omega, by omega⟩
        case measure => simp [intOf]; omega
      | true =>
        go_wp2
        go_roundw
        case rel => exact ⟨trivial, i + 1, by go_num, by rw [hsi.out]; go_num, by omega, by omega⟩
        case measure => simp [intOf]; omega
    · obtain rfl : i = k := by omega
      go_wp2
      go_ret
      exact ⟨rfl, rfl⟩

theorem rgates_any {w0 w : World} {B g c : Nat} {F H : Bool} {ns : List Nd} (h : Rf w0 w B g c F H ns) (hm : ns.length ≤ 200000) :
    Calls Tryz.prog 264 #[.pointer (some ⟨B, 0, none⟩)] w fun e w' => (∃ m : Int, e = .returned (.int .i64 m) ∧ m < ns.length) ∧ Below w.heap.size w w' := by
  obtain ⟨-, -, c2, -⟩ := h.cells
  have hi := Lib.hid (fun w2 (hb : Below w.heap.size w w2) => rinputs_any (h.step hb) hm)
  have hBn := Lib.hid (fun n => below_draws w n)
  have hp := h.pos
  have hl : cI ns ns.length < ns.length := by
    have := cI_lt ns (ns.length - 1)
    rw [show ns.length - 1 + 1 = ns.length by omega] at this
    omega
  generalize cI ns ns.length = m at *
  generalize hk : ns.length = k at *
  have c2' := fun n => stepc (hBn.out n) (h.blt) c2
  clear h hk
  go_enter Tryz.func264, Tryz.ntmps264
  go_wp2
  go_quiet (first | (go_at_call 270; with_reducible exact Calls.quiet_of_same ((hi.out _ (hBn.out _)).mono (fun _ _ h => ⟨h.1, h.2.symm⟩))))
  go_wp2
  go_ret
  exact ⟨⟨(k : Int) - 1 - m, by congr 2, by omega⟩, below_draws _ _⟩

theorem rinput_any {w0 w : World} {B g c : Nat} {F H : Bool} {ns : List Nd} (h : Rf w0 w B g c F H ns) (hm : ns.length ≤ 200000) :
    Calls Tryz.prog 110 #[.pointer (some ⟨B, 0, none⟩)] w fun e w' => (∃ v, e = .returned v) ∧ ∃ g1 c1, Rf w0 w' B g1 c1 F H (ns ++ [⟨false, 0, 0⟩]) ∧ Kept (RK w) w w' := by
  obtain ⟨-, -, c2, f2⟩ := h.cells
  have f2 := f2 2
  have hlt := h.blt
  have hglt := h.glt
  have HR := Lib.hid h.row
  have HF := Lib.hid h
  have hne2 : some B ≠ Value.ownBlock (.slice (some ⟨g, 0, none⟩) ns.length c) := by have := h.ne; simpa [Value.ownBlock] using this
  have hp := h.pos
  have hs0 := h.below.size
  obtain ⟨i0, hi, hz0, hz1, hz2⟩ := info_parts info_rnode
  have g0 : decide ((278528 : Int) < (ns.length : Int)) = false := by simp; omega
  generalize hk : ns.length = k at *
  have hk := Lib.hid hk
  clear h
  go_enter Tryz.func110, Tryz.ntmps110
  go_wp2_with (at_builtin; refine wpList_append_lies _ rfl _ _ 115 rfl w0.heap.size 119 i0 (.agg #[.bool false, .int .u32 0, .int .u32 0]) 3 12 Tryz.underlying115 hi hz0 hz1 hz2 rfl (by decide) (.slice (some ⟨g, 0, none⟩) k c) k _ rfl (HR.out.alloc _) ⟨w.heap.size, 0, none⟩ 1 1 [.bool true, .int .u32 0, .int .u32 0] rfl rfl (news3 (by go_simp) (by go_simp) (by go_simp)) (by simp [Value.oneCell']) (by decide) (by unfold maxLen; omega) (by omega) (by simp; omega) _ rfl ?_; intro g1 cap1 w1 hown1 hgrow1 hat1 hlt1; obtain ⟨x0, x1⟩ := grow_box hgrow1 (b := B) (o := 2) (v := .slice (some ⟨g, 0, none⟩) k c) (by go_simp) (by go_simp) hne2)
  go_ret2
  obtain ⟨r1, r2⟩ := rf_next HF.out ((Below.refl _ _).alloc (Nat.le_refl _) _) ⟨false, 0, 0⟩ (by rw [hk.out]; exact hown1) hgrow1 hat1
  rw [hk.out] at r1 r2
  exact ⟨⟨_, rfl⟩, _, _, r1, r2⟩
end Go.Proofs.YtafoohdndlhbnaaGreatDoor
end

section
namespace Go.Proofs.YtafoohdndlhbnaaGreatDoor
open Go.RowKit Go.Maps Num
set_option maxRecDepth 100000

theorem rnot_any (l : Int) (h : IsLit l) (w : World) :
    Calls Tryz.prog 228 #[.int .u32 l] w fun e w' => e = .returned (.int .u32 (notV l)) ∧ w = w' := by
  obtain ⟨h0, h1⟩ := h
  by_cases e : l % 2 = 0
  · have e0 : (l % 2 == 0) = true := by simpa using e
    have hx := Lib.hid (show (l + 1) % 4294967296 = notV l by unfold notV; rw [if_pos e0]; omega)
    clear e
    go_enter Tryz.func228, Tryz.ntmps228
    go_wp2
    go_ret
    exact ⟨ret_int hx.out, rfl⟩
  · have e0 : (l % 2 == 0) = false := by simpa using e
    have hx := Lib.hid (show (l - 1) % 4294967296 = notV l by unfold notV; rw [if_neg (by simpa using e)]; omega)
    clear e
    go_enter Tryz.func228, Tryz.ntmps228
    go_wp2
    go_ret
    exact ⟨ret_int hx.out, rfl⟩
theorem rfold_any (a b : Int) (ha : IsLit a) (hb : IsLit b) (w : World) :
    Calls Tryz.prog 252 #[.int .u32 a, .int .u32 b] w fun e w' => e = .returned (.tuple #[.int .u32 (foldV a b), .bool (foldB a b)]) ∧ w = w' := by
  by_cases h0 : a = 0
  · subst h0
    have hv := Lib.hid (fold_0 (a := 0) (b := b) (.inl rfl))
    go_enter Tryz.func252, Tryz.ntmps252
    go_wp2_with (go_at_call 228; refine (rnot_any _ hb _).mono ?_; rintro e w2 ⟨rfl, rfl⟩)
    go_ret2
    exact ⟨ret_intb hv.out.1.symm hv.out.2.symm, rfl⟩
  by_cases h1 : b = 0
  · subst h1
    have hv := Lib.hid (fold_0 (a := a) (b := 0) (.inr (.inl rfl)))
    have g0 := beqf h0
    clear h0
    go_enter Tryz.func252, Tryz.ntmps252
    go_wp2_with (go_at_call 228; refine (rnot_any _ hb _).mono ?_; rintro e w2 ⟨rfl, rfl⟩)
    go_ret2
    exact ⟨ret_intb hv.out.1.symm hv.out.2.symm, rfl⟩
  by_cases h2 : a = notV b
  · have hv := Lib.hid (fold_0 (a := a) (b := b) (.inr (.inr h2)))
    have g0 := beqf h0
    have g1 := beqf h1
    have g2 := beqt h2
    clear h0 h1 h2
    go_enter Tryz.func252, Tryz.ntmps252
    go_wp2_with (go_at_call 228; refine (rnot_any _ hb _).mono ?_; rintro e w2 ⟨rfl, rfl⟩)
    go_ret2
    exact ⟨ret_intb hv.out.1.symm hv.out.2.symm, rfl⟩
  by_cases h3 : a = 1
  · subst h3
    have hv := Lib.hid (fold_1 h1 h2)
    have g1 := beqf h1
    have g2 := beqf h2
    clear h0 h1 h2
    go_enter Tryz.func252, Tryz.ntmps252
    go_wp2_with (go_at_call 228; refine (rnot_any _ hb _).mono ?_; rintro e w2 ⟨rfl, rfl⟩)
    go_ret2
    exact ⟨ret_intb hv.out.1.symm hv.out.2.symm, rfl⟩
  by_cases h4 : b = 1
  · subst h4
    have hv := Lib.hid (fold_2 h0 h2 h3)
    have g0 := beqf h0
    have g2 := beqf h2
    have g3 := beqf h3
    clear h0 h1 h2 h3
    go_enter Tryz.func252, Tryz.ntmps252
    go_wp2_with (go_at_call 228; refine (rnot_any _ hb _).mono ?_; rintro e w2 ⟨rfl, rfl⟩)
    go_ret2
    exact ⟨ret_intb hv.out.1.symm hv.out.2.symm, rfl⟩
  by_cases h5 : a = b
  · subst h5
    have hv := Lib.hid (fold_3 h0 h3)
    have g0 := beqf h0
    have g2 := beqf h2
    have g3 := beqf h3
    clear h0 h1 h2 h3 h4
    go_enter Tryz.func252, Tryz.ntmps252
    go_wp2_with (go_at_call 228; refine (rnot_any _ hb _).mono ?_; rintro e w2 ⟨rfl, rfl⟩)
    go_ret2
    exact ⟨ret_intb hv.out.1.symm hv.out.2.symm, rfl⟩
  · have hv := Lib.hid (fold_4 h0 h1 h2 h3 h4 h5)
    have g0 := beqf h0
    have g1 := beqf h1
    have g2 := beqf h2
    have g3 := beqf h3
    have g4 := beqf h4
    have g5 := beqf h5
    clear h0 h1 h2 h3 h4 h5
    go_enter Tryz.func252, Tryz.ntmps252
    go_wp2_with (go_at_call 228; refine (rnot_any _ hb _).mono ?_; rintro e w2 ⟨rfl, rfl⟩)
    go_ret2
    exact ⟨ret_intb hv.out.1.symm hv.out.2.symm, rfl⟩

theorem rgate_any {w0 w : World} {B g c : Nat} {F H : Bool} {ns : List Nd} (h : Rf w0 w B g c F H ns) (hm : ns.length ≤ 200000) (a b : Int) :
    Calls Tryz.prog 253 #[.pointer (some ⟨B, 0, none⟩), .int .u32 a, .int .u32 b] w fun e w' => e = .returned (.tuple #[.int .u32 (2 * (ns.length : Int)), .int .i64 0]) ∧ ∃ g1 c1, Rf w0 w' B g1 c1 F H (ns ++ [⟨true, hiV a b, loV a b⟩]) ∧ Kept (RK w) w w' := by
  have hga := Lib.hid (rgates_any h hm)
  have hne2 : some B ≠ Value.ownBlock (.slice (some ⟨g, 0, none⟩) ns.length c) := by have := h.ne; simpa [Value.ownBlock] using this
  have hp := h.pos
  have HF0 := Lib.hid h
  obtain ⟨i0, hi, hz0, hz1, hz2⟩ := info_parts info_rnode
  generalize hk : ns.length = k at *
  have hk := Lib.hid hk
  clear h
  by_cases hab : a < b
  · have e1 : hiV a b = b := if_pos hab
    have e2 : loV a b = a := if_pos hab
    have g1 : decide (a < b) = true := by simp [hab]
    rw [e1, e2]
    clear e1 e2
    · go_enter Tryz.func253, Tryz.ntmps253
      go_wp2_with (first | (go_at_call 264; (with_reducible refine hga.out.mono ?_); rintro e w2 ⟨⟨m, rfl, hm2⟩, hB⟩; have HF2 := Lib.hid (HF0.out.step hB); have HR2 := Lib.hid HF2.out.row; rw [hk.out] at HR2; obtain ⟨-, -, c2, f2⟩ := HF2.out.cells; rw [hk.out] at c2; have f2 := f2 2; have hlt := HF2.out.blt; have hglt := HF2.out.glt; have hs0 := HF2.out.below.size; have g0 : decide ((262144 : Int) ≤ m) = false := by simp; omega) | (at_builtin; refine wpList_append_lies _ rfl _ _ 115 rfl w0.heap.size 119 i0 (.agg #[.bool false, .int .u32 0, .int .u32 0]) 3 12 Tryz.underlying115 hi hz0 hz1 hz2 rfl (by decide) (.slice (some ⟨g, 0, none⟩) k c) k _ rfl (HR2.out.alloc _) ⟨w2.heap.size, 0, none⟩ 1 1 [.bool false, .int .u32 b, .int .u32 a] rfl rfl (news3 (by go_simp) (by go_simp) (by go_simp)) (by simp [Value.oneCell']) (by decide) (by unfold maxLen; omega) (by omega) (by simp; omega) _ rfl ?_; intro g1 cap1 w1 hown1 hgrow1 hat1 hlt1; obtain ⟨x0, x1⟩ := grow_box hgrow1 (b := B) (o := 2) (v := .slice (some ⟨g, 0, none⟩) k c) (by go_simp) (by go_simp) hne2))
      go_ret2
      obtain ⟨r1, r2⟩ := rf_next HF2.out ((Below.refl _ _).alloc (Nat.le_refl _) _) ⟨true, b, a⟩ (by rw [hk.out]; exact hown1) hgrow1 hat1
      rw [hk.out] at r1 r2
      exact ⟨by congr 4, _, _, r1, RK.trans (RK.of_below hB) r2⟩
  · have e1 : hiV a b = a := if_neg hab
    have e2 : loV a b = b := if_neg hab
    have g1 : decide (a < b) = false := by simp [hab]
    rw [e1, e2]
    clear e1 e2
    · go_enter Tryz.func253, Tryz.ntmps253
      go_wp2_with (first | (go_at_call 264; (with_reducible refine hga.out.mono ?_); rintro e w2 ⟨⟨m, rfl, hm2⟩, hB⟩; have HF2 := Lib.hid (HF0.out.step hB); have HR2 := Lib.hid HF2.out.row; rw [hk.out] at HR2; obtain ⟨-, -, c2, f2⟩ := HF2.out.cells; rw [hk.out] at c2; have f2 := f2 2; have hlt := HF2.out.blt; have hglt := HF2.out.glt; have hs0 := HF2.out.below.size; have g0 : decide ((262144 : Int) ≤ m) = false := by simp; omega) | (at_builtin; refine wpList_append_lies _ rfl _ _ 115 rfl w0.heap.size 119 i0 (.agg #[.bool false, .int .u32 0, .int .u32 0]) 3 12 Tryz.underlying115 hi hz0 hz1 hz2 rfl (by decide) (.slice (some ⟨g, 0, none⟩) k c) k _ rfl (HR2.out.alloc _) ⟨w2.heap.size, 0, none⟩ 1 1 [.bool false, .int .u32 a, .int .u32 b] rfl rfl (news3 (by go_simp) (by go_simp) (by go_simp)) (by simp [Value.oneCell']) (by decide) (by unfold maxLen; omega) (by omega) (by simp; omega) _ rfl ?_; intro g1 cap1 w1 hown1 hgrow1 hat1 hlt1; obtain ⟨x0, x1⟩ := grow_box hgrow1 (b := B) (o := 2) (v := .slice (some ⟨g, 0, none⟩) k c) (by go_simp) (by go_simp) hne2))
      go_ret2
      obtain ⟨r1, r2⟩ := rf_next HF2.out ((Below.refl _ _).alloc (Nat.le_refl _) _) ⟨true, a, b⟩ (by rw [hk.out]; exact hown1) hgrow1 hat1
      rw [hk.out] at r1 r2
      exact ⟨by congr 4, _, _, r1, RK.trans (RK.of_below hB) r2⟩

theorem rthere_any {w0 w : World} {B g c : Nat} {F H : Bool} {ns : List Nd} (h : Rf w0 w B g c F H ns) (hm : ns.length ≤ 200000) {a : Option Addr} {n cap : Nat} {l : List Int} (hs : Row .u32 w a n l) (hl : ∀ x ∈ l, IsLit x ∧ x / 2 < ns.length) :
    Calls Tryz.prog 118 #[.pointer (some ⟨B, 0, none⟩), .slice a n cap] w fun e w' => e = .returned (.bool true) ∧ Below w.heap.size w w' := by
  obtain ⟨-, -, c2, -⟩ := h.cells
  have hblt := h.blt
  have HS := Lib.hid hs
  have HL := Lib.hid hl
  have hle := hs.le
  generalize hk : ns.length = k at *
  clear h hk hs hl
  go_enter Tryz.func118, Tryz.ntmps118
  go_wp2
  go_loopw [5] (fun s wr => ∃ j : Nat, j ≤ n ∧ s = .int .i64 j ∧ Below w.heap.size w wr) (fun s _ => n - (intOf s).toNat)
  case atStart => exact ⟨0, Nat.zero_le _, rfl, Below.refl _ _⟩
  case round =>
    obtain ⟨j, hj, rfl, hB⟩ := hrel
    by_cases hlt : j < n
    · obtain ⟨b, off, rfl, hb, hcell⟩ := HS.out.at (by omega)
      have hcj := stepc hB hb (hcell j hlt)
      have c2r := stepc hB hblt c2
      have hx := HL.out (l.getD j 0) (by have := HS.out.len; simp [List.getD, show j < l.length by omega])
      generalize l.getD j 0 = x at *
      have hx0 := hx.1.1
      have hx1 := hx.1.2
      have hxt : x.tdiv 2 = x / 2 := by rw [Int.tdiv_eq_ediv_of_nonneg hx0]
      have hw1 : IntKind.u32.wrap (x / 2) = x / 2 := by rw [w32]; omega
      have hw2 : IntKind.i64.wrap (x / 2) = x / 2 := IntWalk.i64_in _ (by omega)
      have hge : decide (x / 2 ≥ (k : Int)) = false := by simp; omega
      have hge2 : decide ((k : Int) ≤ x / 2) = false := by simp; omega
      have hBr := Lib.hid hB
      clear hcell hx hB
      go_wp2
      go_quiet (fail)
      go_wp2
      go_roundw
      case rel => exact ⟨j + 1, by omega, by go_num, nextw hBr.out (below_draws _ _)⟩
      case measure => simp [intOf]; omega
    · obtain rfl : j = n := by omega
      go_wp2
      go_ret
      exact ⟨rfl, hB⟩

theorem hiV_hl (a b : Int) : hiV (hiV a b) (loV a b) = hiV a b ∧ loV (hiV a b) (loV a b) = loV a b := by
  by_cases h : a < b
  · simp [hiV, loV, h]; omega
  · simp [hiV, loV, h]
theorem isPair_no {x y : Int} {n : Nd} (h : isPair x y n = false) : n.gate = false ∨ ¬ n.a = x ∨ ¬ n.b = y := by
  unfold isPair at h
  cases hg : n.gate <;> simp_all
  by_cases e : n.a = x
  · exact .inr (h e)
  · exact .inl e
theorem find_no {ns : List Nd} {x y : Int} {t : Nat} (h : findG ns x y = some t ∨ (findG ns x y = none ∧ t = ns.length)) : ∀ j, j < t → (ns.getD j ⟨false, 0, 0⟩).gate = false ∨ ¬ (ns.getD j ⟨false, 0, 0⟩).a = x ∨ ¬ (ns.getD j ⟨false, 0, 0⟩).b = y := by
  intro j hj
  apply isPair_no
  unfold findG at h
  rcases h with h | ⟨h, rfl⟩
  · obtain ⟨hi, -, hn⟩ := List.findIdx?_eq_some_iff_getElem.1 h
    have := hn j hj
    have hl : j < ns.length := by omega
    simpa [List.getD, hl] using this
  · rw [List.findIdx?_eq_none_iff] at h
    have := h ns[j] (by simp)
    simpa [List.getD, hj] using this

set_option maxHeartbeats 1000000 in
theorem rand_any {w0 w : World} {B g c : Nat} {G : Gr} (h : Rf w0 w B g c G.fold G.hash G.nodes) (hW : Wf G) (hm : G.nodes.length ≤ 200000) {a b : Int} (ha : IsLit a) (hb : IsLit b) :
    Calls Tryz.prog 227 #[.pointer (some ⟨B, 0, none⟩), .int .u32 a, .int .u32 b] w fun e w' => e = .returned (.tuple #[.int .u32 (andG G a b).2, .int .i64 0]) ∧ ∃ g1 c1, Rf w0 w' B g1 c1 G.fold G.hash (andG G a b).1.nodes ∧ Kept (RK w) w w' := by
  have hfo := Lib.hid (fun w => rfold_any a b ha hb w)
  obtain ⟨c0, c1, c2, -⟩ := h.cells
  have HR := Lib.hid h
  by_cases hf : (G.fold && foldB a b) = true
  · rw [show andG G a b = (G, foldV a b) from if_pos hf]
    rw [Bool.and_eq_true] at hf
    rw [hf.1] at c0
    rw [hf.2] at hfo
    generalize foldV a b = v at *
    have HF := Lib.hid hf
    clear h hW hf
    go_enter Tryz.func227, Tryz.ntmps227
    go_wp2_with (go_at_call 252; (with_reducible refine (hfo.out _).mono ?_); rintro e w2 ⟨rfl, rfl⟩)
    go_ret2
    exact ⟨rfl, g, c, HR.out, RK.refl _⟩
  · have hG : Hid (andG G a b = match seenG G a b with | some i => (G, 2 * (i : Int)) | none => gateG G a b) := Lib.hid (if_neg hf)
    have hlen := hm
    have hgt := Lib.hid (rgate_any h hm (hiV a b) (loV a b))
    rw [(hiV_hl a b).1, (hiV_hl a b).2] at hgt
    have hor : (a < b ∧ hiV a b = b ∧ loV a b = a) ∨ (¬ a < b ∧ hiV a b = a ∧ loV a b = b) := by unfold hiV loV; by_cases e : a < b <;> simp [e]
    have hnode := Lib.hid (fun i (h0 : 0 < i) (hi : i < G.nodes.length) => h.node h0 hi)
    have HW := Lib.hid hW
    obtain ⟨fo, hfo2⟩ : ∃ fo, fo = G.fold := ⟨_, rfl⟩
    obtain ⟨fb, hfb2⟩ : ∃ fb, fb = foldB a b := ⟨_, rfl⟩
    rw [← hfo2, ← hfb2] at hf
    rw [← hfo2] at c0
    rw [← hfb2] at hfo
    clear hfo2 hfb2
    generalize foldV a b = v at *
    have hhc : G.hash = false ∨ G.hash = true := by cases G.hash <;> simp
    rcases hhc with hh | hh
    · skip
      have hs : Hid ((andG G a b).2 = 2 * (G.nodes.length : Int) ∧ (andG G a b).1.nodes = G.nodes ++ [⟨true, hiV a b, loV a b⟩]) := Lib.hid (by rw [hG.out]; unfold seenG; rw [hh]; exact ⟨rfl, rfl⟩)
      rw [hh] at c1
      have hh2 := Lib.hid hh
      clear hG hh h hnode hW
      have hfq : (fo = false) ∨ (fo = true ∧ fb = false) := by cases fo <;> cases fb <;> simp at hf ⊢
      clear hf
      generalize hX : hiV a b = X at *
      generalize hY : loV a b = Y at *
      clear hX hY
      rcases hfq with rfl | ⟨rfl, rfl⟩
      · go_enter Tryz.func227, Tryz.ntmps227
        go_upto_if 27 with (go_at_call 252; (with_reducible refine (hfo.out _).mono ?_); rintro e w2 ⟨rfl, rfl⟩)
        go_cut [1, 2] (fun s t wx => s = .int .u32 X ∧ t = .int .u32 Y ∧ w = wx)
        case first => (rcases hor with ⟨h1, rfl, rfl⟩ | ⟨h1, rfl, rfl⟩ <;> go_wp2 <;> go_meet <;> exact ⟨rfl, rfl, rfl⟩)
        obtain ⟨rfl, rfl, rfl⟩ := hcut
        clear hfo hor
        go_wp2
        go_loopw [10] (fun s wr => s = .int .i64 1 ∧ Hid (w = wr)) (fun _ _ => 0)
        case atStart => exact ⟨rfl, Lib.hid rfl⟩
        case round =>
          obtain ⟨rfl, hwr⟩ := hrel
          have hwr2 := hwr.out
          subst hwr2
          clear hwr
          go_wp2_with (go_at_call 253; (with_reducible refine hgt.out.mono ?_); rintro e w3 ⟨rfl, g3, c3, hR3, hK3⟩)
          go_ret2
          exact ⟨by rw [hs.out.1]; rfl, g3, c3, by rw [hs.out.2]; exact hR3, hK3⟩
      · go_enter Tryz.func227, Tryz.ntmps227
        go_upto_if 27 with (go_at_call 252; (with_reducible refine (hfo.out _).mono ?_); rintro e w2 ⟨rfl, rfl⟩)
        go_cut [1, 2] (fun s t wx => s = .int .u32 X ∧ t = .int .u32 Y ∧ w = wx)
        case first => (rcases hor with ⟨h1, rfl, rfl⟩ | ⟨h1, rfl, rfl⟩ <;> go_wp2 <;> go_meet <;> exact ⟨rfl, rfl, rfl⟩)
        obtain ⟨rfl, rfl, rfl⟩ := hcut
        clear hfo hor
        go_wp2
        go_loopw [10] (fun s wr => s = .int .i64 1 ∧ Hid (w = wr)) (fun _ _ => 0)
        case atStart => exact ⟨rfl, Lib.hid rfl⟩
        case round =>
          obtain ⟨rfl, hwr⟩ := hrel
          have hwr2 := hwr.out
          subst hwr2
          clear hwr
          go_wp2_with (go_at_call 253; (with_reducible refine hgt.out.mono ?_); rintro e w3 ⟨rfl, g3, c3, hR3, hK3⟩)
          go_ret2
          exact ⟨by rw [hs.out.1]; rfl, g3, c3, by rw [hs.out.2]; exact hR3, hK3⟩
    · have hG2 : Hid (andG G a b = match findG G.nodes (hiV a b) (loV a b) with | some i => (G, 2 * (i : Int)) | none => gateG G a b) := Lib.hid (by rw [hG.out]; unfold seenG; rw [if_pos hh])
      rw [hh] at c1
      have hh2 := Lib.hid hh
      cases hfi : findG G.nodes (hiV a b) (loV a b) with
      | some t =>
        have hs : Hid ((andG G a b).2 = 2 * (t : Int) ∧ (andG G a b).1.nodes = G.nodes) := Lib.hid (by rw [hG2.out, hfi]; exact ⟨rfl, rfl⟩)
        have hno := Lib.hid (find_no (.inl hfi))
        obtain ⟨nt, ht, hg1, ha1, hb1⟩ := findG_some hfi
        have htl := (List.getElem?_eq_some_iff.1 ht).1
        have ht0 : 0 < t := by
          rcases Nat.eq_zero_or_pos t with e | e
          · subst e; rw [hW.zero] at ht; simp at ht; subst ht; cases hg1
          · exact e
        obtain ⟨d0, d1, d2⟩ := h.node ht0 htl
        rw [show G.nodes.getD t ⟨false, 0, 0⟩ = nt by simp [List.getD, ht], hg1, ha1, hb1] at *
        clear hG hG2 hfi hh h hW ht hg1 ha1 hb1
        have hfq : (fo = false) ∨ (fo = true ∧ fb = false) := by cases fo <;> cases fb <;> simp at hf ⊢
        clear hf
        generalize hX : hiV a b = X at *
        generalize hY : loV a b = Y at *
        clear hX hY
        rcases hfq with rfl | ⟨rfl, rfl⟩
        · go_enter Tryz.func227, Tryz.ntmps227
          go_upto_if 27 with (go_at_call 252; (with_reducible refine (hfo.out _).mono ?_); rintro e w2 ⟨rfl, rfl⟩)
          go_cut [1, 2] (fun s t wx => s = .int .u32 X ∧ t = .int .u32 Y ∧ w = wx)
          case first => (rcases hor with ⟨h1, rfl, rfl⟩ | ⟨h1, rfl, rfl⟩ <;> go_wp2 <;> go_meet <;> exact ⟨rfl, rfl, rfl⟩)
          obtain ⟨rfl, rfl, rfl⟩ := hcut
          clear hfo hor
          go_wp2
          go_loopw [10] (fun s wr => ∃ j : Nat, s = .int .i64 j ∧ 0 < j ∧ j ≤ t ∧ Hid (w = wr)) (fun s _ => t - (intOf s).toNat)
          case atStart => exact ⟨1, rfl, by omega, by omega, Lib.hid rfl⟩
          case round =>
            obtain ⟨j, rfl, hj0, hjt, hwr⟩ := hrel
            have hwr2 := hwr.out
            subst hwr2
            clear hwr
            by_cases hlt : j < t
            · have hjk : j < G.nodes.length := by omega
              obtain ⟨n0, n1, n2⟩ := hnode.out j hj0 hjk
              have hnj := hno.out j hlt
              generalize (G.nodes.getD j ⟨false, 0, 0⟩).gate = q at *
              generalize (G.nodes.getD j ⟨false, 0, 0⟩).a = na at *
              generalize (G.nodes.getD j ⟨false, 0, 0⟩).b = nb at *
              rcases hnj with rfl | e | e
              · go_wp2
                go_roundw
                case rel => exact ⟨j + 1, by go_num, by omega, by omega, Lib.hid trivial⟩
                case measure => simp [intOf]; omega
              · have e1 := beqf e
                cases q
                · go_wp2
                  go_roundw
                  case rel => exact ⟨j + 1, by go_num, by omega, by omega, Lib.hid trivial⟩
                  case measure => simp [intOf]; omega
                · go_wp2
                  go_roundw
                  case rel => exact ⟨j + 1, by go_num, by omega, by omega, Lib.hid trivial⟩
                  case measure => simp [intOf]; omega
              · have e1 := beqf e
                cases q
                · go_wp2
                  go_roundw
                  case rel => exact ⟨j + 1, by go_num, by omega, by omega, Lib.hid trivial⟩
                  case measure => simp [intOf]; omega
                · by_cases e2 : na = X
                  · subst e2
                    go_wp2
                    go_roundw
                    case rel => exact ⟨j + 1, by go_num, by omega, by omega, Lib.hid trivial⟩
                    case measure => simp [intOf]; omega
                  · have e3 := beqf e2
                    go_wp2
                    go_roundw
                    case rel => exact ⟨j + 1, by go_num, by omega, by omega, Lib.hid trivial⟩
                    case measure => simp [intOf]; omega
            · obtain rfl : j = t := by omega
              go_wp2
              go_ret2
              exact ⟨by rw [hs.out.1]; rfl, g, c, by rw [hs.out.2]; exact HR.out, RK.refl _⟩
        · go_enter Tryz.func227, Tryz.ntmps227
          go_upto_if 27 with (go_at_call 252; (with_reducible refine (hfo.out _).mono ?_); rintro e w2 ⟨rfl, rfl⟩)
          go_cut [1, 2] (fun s t wx => s = .int .u32 X ∧ t = .int .u32 Y ∧ w = wx)
          case first => (rcases hor with ⟨h1, rfl, rfl⟩ | ⟨h1, rfl, rfl⟩ <;> go_wp2 <;> go_meet <;> exact ⟨rfl, rfl, rfl⟩)
          obtain ⟨rfl, rfl, rfl⟩ := hcut
          clear hfo hor
          go_wp2
          go_loopw [10] (fun s wr => ∃ j : Nat, s = .int .i64 j ∧ 0 < j ∧ j ≤ t ∧ Hid (w = wr)) (fun s _ => t - (intOf s).toNat)
          case atStart => exact ⟨1, rfl, by omega, by omega, Lib.hid rfl⟩
          case round =>
            obtain ⟨j, rfl, hj0, hjt, hwr⟩ := hrel
            have hwr2 := hwr.out
            subst hwr2
            clear hwr
            by_cases hlt : j < t
            · have hjk : j < G.nodes.length := by omega
              obtain ⟨n0, n1, n2⟩ := hnode.out j hj0 hjk
              have hnj := hno.out j hlt
              generalize (G.nodes.getD j ⟨false, 0, 0⟩).gate = q at *
              generalize (G.nodes.getD j ⟨false, 0, 0⟩).a = na at *
              generalize (G.nodes.getD j ⟨false, 0, 0⟩).b = nb at *
              rcases hnj with rfl | e | e
              · go_wp2
                go_roundw
                case rel => exact ⟨j + 1, by go_num, by omega, by omega, Lib.hid trivial⟩
                case measure => simp [intOf]; omega
              · have e1 := beqf e
                cases q
                · go_wp2
                  go_roundw
                  case rel => exact ⟨j + 1, by go_num, by omega, by omega, Lib.hid trivial⟩
                  case measure => simp [intOf]; omega
                · go_wp2
                  go_roundw
                  case rel => exact ⟨j + 1, by go_num, by omega, by omega, Lib.hid trivial⟩
                  case measure => simp [intOf]; omega
              · have e1 := beqf e
                cases q
                · go_wp2
                  go_roundw
                  case rel => exact ⟨j + 1, by go_num, by omega, by omega, Lib.hid trivial⟩
                  case measure => simp [intOf]; omega
                · by_cases e2 : na = X
                  · subst e2
                    go_wp2
                    go_roundw
                    case rel => exact ⟨j + 1, by go_num, by omega, by omega, Lib.hid trivial⟩
                    case measure => simp [intOf]; omega
                  · have e3 := beqf e2
                    go_wp2
                    go_roundw
                    case rel => exact ⟨j + 1, by go_num, by omega, by omega, Lib.hid trivial⟩
                    case measure => simp [intOf]; omega
            · obtain rfl : j = t := by omega
              go_wp2
              go_ret2
              exact ⟨by rw [hs.out.1]; rfl, g, c, by rw [hs.out.2]; exact HR.out, RK.refl _⟩
      | none =>
        obtain ⟨t, htk⟩ : ∃ t, t = G.nodes.length := ⟨_, rfl⟩
        have hs : Hid ((andG G a b).2 = 2 * (G.nodes.length : Int) ∧ (andG G a b).1.nodes = G.nodes ++ [⟨true, hiV a b, loV a b⟩]) := Lib.hid (by rw [hG2.out, hfi]; exact ⟨rfl, rfl⟩)
        have hno := Lib.hid (find_no (.inr ⟨hfi, htk⟩))
        have htl : t ≤ G.nodes.length := by omega
        have ht0 : 0 < t := by have := hW.pos; omega
        clear hG hG2 hfi hh h hW
        have hfq : (fo = false) ∨ (fo = true ∧ fb = false) := by cases fo <;> cases fb <;> simp at hf ⊢
        clear hf
        generalize hX : hiV a b = X at *
        generalize hY : loV a b = Y at *
        clear hX hY
        rcases hfq with rfl | ⟨rfl, rfl⟩
        · go_enter Tryz.func227, Tryz.ntmps227
          go_upto_if 27 with (go_at_call 252; (with_reducible refine (hfo.out _).mono ?_); rintro e w2 ⟨rfl, rfl⟩)
          go_cut [1, 2] (fun s t wx => s = .int .u32 X ∧ t = .int .u32 Y ∧ w = wx)
          case first => (rcases hor with ⟨h1, rfl, rfl⟩ | ⟨h1, rfl, rfl⟩ <;> go_wp2 <;> go_meet <;> exact ⟨rfl, rfl, rfl⟩)
          obtain ⟨rfl, rfl, rfl⟩ := hcut
          clear hfo hor
          go_wp2
          go_loopw [10] (fun s wr => ∃ j : Nat, s = .int .i64 j ∧ 0 < j ∧ j ≤ t ∧ Hid (w = wr)) (fun s _ => t - (intOf s).toNat)
          case atStart => exact ⟨1, rfl, by omega, by omega, Lib.hid rfl⟩
          case round =>
            obtain ⟨j, rfl, hj0, hjt, hwr⟩ := hrel
            have hwr2 := hwr.out
            subst hwr2
            clear hwr
            by_cases hlt : j < t
            · have hjk : j < G.nodes.length := by omega
              obtain ⟨n0, n1, n2⟩ := hnode.out j hj0 hjk
              have hnj := hno.out j hlt
              generalize (G.nodes.getD j ⟨false, 0, 0⟩).gate = q at *
              generalize (G.nodes.getD j ⟨false, 0, 0⟩).a = na at *
              generalize (G.nodes.getD j ⟨false, 0, 0⟩).b = nb at *
              rcases hnj with rfl | e | e
              · go_wp2
                go_roundw
                case rel => exact ⟨j + 1, by go_num, by omega, by omega, Lib.hid trivial⟩
                case measure => simp [intOf]; omega
              · have e1 := beqf e
                cases q
                · go_wp2
                  go_roundw
                  case rel => exact ⟨j + 1, by go_num, by omega, by omega, Lib.hid trivial⟩
                  case measure => simp [intOf]; omega
                · go_wp2
                  go_roundw
                  case rel => exact ⟨j + 1, by go_num, by omega, by omega, Lib.hid trivial⟩
                  case measure => simp [intOf]; omega
              · have e1 := beqf e
                cases q
                · go_wp2
                  go_roundw
                  case rel => exact ⟨j + 1, by go_num, by omega, by omega, Lib.hid trivial⟩
                  case measure => simp [intOf]; omega
                · by_cases e2 : na = X
                  · subst e2
                    go_wp2
                    go_roundw
                    case rel => exact ⟨j + 1, by go_num, by omega, by omega, Lib.hid trivial⟩
                    case measure => simp [intOf]; omega
                  · have e3 := beqf e2
                    go_wp2
                    go_roundw
                    case rel => exact ⟨j + 1, by go_num, by omega, by omega, Lib.hid trivial⟩
                    case measure => simp [intOf]; omega
            · obtain rfl : j = t := by omega
              subst htk
              go_wp2_with (go_at_call 253; (with_reducible refine hgt.out.mono ?_); rintro e w3 ⟨rfl, g3, c3, hR3, hK3⟩)
              go_ret2
              exact ⟨by rw [hs.out.1]; rfl, g3, c3, by rw [hs.out.2]; exact hR3, hK3⟩
        · go_enter Tryz.func227, Tryz.ntmps227
          go_upto_if 27 with (go_at_call 252; (with_reducible refine (hfo.out _).mono ?_); rintro e w2 ⟨rfl, rfl⟩)
          go_cut [1, 2] (fun s t wx => s = .int .u32 X ∧ t = .int .u32 Y ∧ w = wx)
          case first => (rcases hor with ⟨h1, rfl, rfl⟩ | ⟨h1, rfl, rfl⟩ <;> go_wp2 <;> go_meet <;> exact ⟨rfl, rfl, rfl⟩)
          obtain ⟨rfl, rfl, rfl⟩ := hcut
          clear hfo hor
          go_wp2
          go_loopw [10] (fun s wr => ∃ j : Nat, s = .int .i64 j ∧ 0 < j ∧ j ≤ t ∧ Hid (w = wr)) (fun s _ => t - (intOf s).toNat)
          case atStart => exact ⟨1, rfl, by omega, by omega, Lib.hid rfl⟩
          case round =>
            obtain ⟨j, rfl, hj0, hjt, hwr⟩ := hrel
            have hwr2 := hwr.out
            subst hwr2
            clear hwr
            by_cases hlt : j < t
            · have hjk : j < G.nodes.length := by omega
              obtain ⟨n0, n1, n2⟩ := hnode.out j hj0 hjk
              have hnj := hno.out j hlt
              generalize (G.nodes.getD j ⟨false, 0, 0⟩).gate = q at *
              generalize (G.nodes.getD j ⟨false, 0, 0⟩).a = na at *
              generalize (G.nodes.getD j ⟨false, 0, 0⟩).b = nb at *
              rcases hnj with rfl | e | e
              · go_wp2
                go_roundw
                case rel => exact ⟨j + 1, by go_num, by omega, by omega, Lib.hid trivial⟩
                case measure => simp [intOf]; omega
              · have e1 := beqf e
                cases q
                · go_wp2
                  go_roundw
                  case rel => exact ⟨j + 1, by go_num, by omega, by omega, Lib.hid trivial⟩
                  case measure => simp [intOf]; omega
                · go_wp2
                  go_roundw
                  case rel => exact ⟨j + 1, by go_num, by omega, by omega, Lib.hid trivial⟩
                  case measure => simp [intOf]; omega
              · have e1 := beqf e
                cases q
                · go_wp2
                  go_roundw
                  case rel => exact ⟨j + 1, by go_num, by omega, by omega, Lib.hid trivial⟩
                  case measure => simp [intOf]; omega
                · by_cases e2 : na = X
                  · subst e2
                    go_wp2
                    go_roundw
                    case rel => exact ⟨j + 1, by go_num, by omega, by omega, Lib.hid trivial⟩
                    case measure => simp [intOf]; omega
                  · have e3 := beqf e2
                    go_wp2
                    go_roundw
                    case rel => exact ⟨j + 1, by go_num, by omega, by omega, Lib.hid trivial⟩
                    case measure => simp [intOf]; omega
            · obtain rfl : j = t := by omega
              subst htk
              go_wp2_with (go_at_call 253; (with_reducible refine hgt.out.mono ?_); rintro e w3 ⟨rfl, g3, c3, hR3, hK3⟩)
              go_ret2
              exact ⟨by rw [hs.out.1]; rfl, g3, c3, by rw [hs.out.2]; exact hR3, hK3⟩
end Go.Proofs.YtafoohdndlhbnaaGreatDoor
end

section
namespace Go.Proofs.YtafoohdndlhbnaaGreatDoor
open Go.RowKit Go.Maps Num
set_option maxRecDepth 100000

/-- What a call of two comes to. -/
def RTwo (N : Nat) (op : Int) (T : Gr → Int → Int → Gr × Int) : Prop := ∀ (w0 w : World) (B g c : Nat) (G : Gr) (a b : Int), Rf w0 w B g c G.fold G.hash G.nodes → Wf G → G.nodes.length ≤ N → There G a → There G b →
    Calls Tryz.prog 185 #[.pointer (some ⟨B, 0, none⟩), .int .i64 op, .int .u32 a, .int .u32 b] w fun e w' => e = .returned (.tuple #[.int .u32 (T G a b).2, .int .i64 0]) ∧ ∃ g1 c1, Rf w0 w' B g1 c1 G.fold G.hash (T G a b).1.nodes ∧ Kept (RK w) w w'

theorem rtwo_and : RTwo 199000 1 andG := by
  intro w0 w B g c G a b h hW hm ha hb
  have hand := Lib.hid (rand_any h hW (by omega) ha.1 hb.1)
  clear h hW ha hb
  generalize (andG G a b) = r at *
  go_enter Tryz.func185, Tryz.ntmps185
  go_wp2_with (go_at_call 227; (with_reducible refine hand.out.mono ?_); rintro e w3 ⟨rfl, g3, c3, hR3, hK3⟩)
  go_ret2
  exact ⟨rfl, g3, c3, hR3, hK3⟩

theorem rtwo_or : RTwo 199000 2 orG := by
  intro w0 w B g c G a b h hW hm ha hb
  have hand := Lib.hid (rand_any h hW (by omega) ha.not.1 hb.not.1)
  have hgd := andG_good hW ha.not hb.not (by omega)
  have hn1 := Lib.hid (fun w => rnot_any a ha.1 w)
  have hn2 := Lib.hid (fun w => rnot_any b hb.1 w)
  have hn3 := Lib.hid (fun w => rnot_any _ hgd.there.1 w)
  clear h hW ha hb hgd
  unfold orG
  generalize (andG G (notV a) (notV b)) = r at *
  go_enter Tryz.func185, Tryz.ntmps185
  go_wp2_with (first
    | (go_at_call 227; (with_reducible refine hand.out.mono ?_); rintro e w3 ⟨rfl, g3, c3, hR3, hK3⟩)
    | (go_at_call 228; (with_reducible refine (hn1.out _).mono ?_); rintro e w3 ⟨rfl, rfl⟩)
    | (go_at_call 228; (with_reducible refine (hn2.out _).mono ?_); rintro e w3 ⟨rfl, rfl⟩)
    | (go_at_call 228; (with_reducible refine (hn3.out _).mono ?_); rintro e w4 ⟨rfl, rfl⟩))
  go_ret2
  exact ⟨rfl, g3, c3, hR3, hK3⟩

theorem rboth_any {w0 w : World} {B g c : Nat} {G : Gr} {x y z t : Int} (h : Rf w0 w B g c G.fold G.hash G.nodes) (hW : Wf G) (hm : G.nodes.length ≤ 190000) (hx : There G x) (hy : There G y) (hz : There G z) (ht : There G t) :
    Calls Tryz.prog 229 #[.pointer (some ⟨B, 0, none⟩), .int .u32 x, .int .u32 y, .int .u32 z, .int .u32 t] w fun e w' => e = .returned (.tuple #[.int .u32 (eitherG G x y z t).2, .int .i64 0]) ∧ ∃ g1 c1, Rf w0 w' B g1 c1 G.fold G.hash (eitherG G x y z t).1.nodes ∧ Kept (RK w) w w' := by
  have g1 := andG_good hW hx hy (by omega)
  have l1 := g1.len
  have g2 := andG_good g1.wf (g1.le.there hz) (g1.le.there ht) (by omega)
  have l2 := g2.len
  have h1 := Lib.hid (rand_any h hW (by omega) hx.1 hy.1)
  have h2 := Lib.hid (fun w2 g c (hR : Rf w0 w2 B g c (andG G x y).1.fold (andG G x y).1.hash (andG G x y).1.nodes) => rand_any hR g1.wf (by omega) hz.1 ht.1)
  have h3 := Lib.hid (fun w2 g c (hR : Rf w0 w2 B g c (andG (andG G x y).1 z t).1.fold (andG (andG G x y).1 z t).1.hash (andG (andG G x y).1 z t).1.nodes) => rtwo_or w0 w2 B g c _ _ _ hR g2.wf (by omega) (g2.le.there g1.there) g2.there)
  have e1 := Lib.hid (And.intro g1.le.fold g1.le.hash)
  have e2 := Lib.hid (And.intro g2.le.fold g2.le.hash)
  clear h hW hx hy hz ht g1 g2 l1 l2
  unfold eitherG
  generalize (andG G x y) = r1 at *
  generalize (andG r1.1 z t) = r2 at *
  generalize (orG r2.1 r1.2 r2.2) = r3 at *
  go_enter Tryz.func229, Tryz.ntmps229
  go_wp2_with (first
    | (go_at_call 227; (with_reducible refine h1.out.mono ?_); rintro e w3 ⟨rfl, g3, c3, hR3, hK3⟩; rw [← e1.out.1, ← e1.out.2] at hR3; have h22 := Lib.hid (h2.out _ _ _ hR3))
    | (go_at_call 227; (with_reducible refine h22.out.mono ?_); rintro e w4 ⟨rfl, g4, c4, hR4, hK4⟩; rw [← e2.out.1, ← e2.out.2] at hR4; have h33 := Lib.hid (h3.out _ _ _ hR4))
    | (go_at_call 185; (with_reducible refine h33.out.mono ?_); rintro e w5 ⟨rfl, g5, c5, hR5, hK5⟩))
  go_ret2
  refine ⟨rfl, g5, c5, ?_, RK.trans hK3 (RK.trans hK4 hK5)⟩
  rw [e2.out.1, e2.out.2, e1.out.1, e1.out.2] at hR5
  exact hR5

theorem rtwo_xor : RTwo 190000 3 xorG := by
  intro w0 w B g c G a b h hW hm ha hb
  have hn1 := Lib.hid (fun w => rnot_any a ha.1 w)
  have hn2 := Lib.hid (fun w => rnot_any b hb.1 w)
  have hbo := Lib.hid (fun (h9 : G.nodes.length ≤ 190000) => rboth_any h hW h9 ha hb.not ha.not hb)
  clear h hW ha hb
  unfold xorG
  generalize (eitherG G a (notV b) (notV a) b) = r at *
  go_enter Tryz.func185, Tryz.ntmps185
  go_wp2_with (first
    | (go_at_call 229; (with_reducible refine (hbo.out hm).mono ?_); rintro e w3 ⟨rfl, g3, c3, hR3, hK3⟩)
    | (go_at_call 228; (with_reducible refine (hn1.out _).mono ?_); rintro e w3 ⟨rfl, rfl⟩)
    | (go_at_call 228; (with_reducible refine (hn2.out _).mono ?_); rintro e w3 ⟨rfl, rfl⟩))
  go_ret2
  exact ⟨rfl, g3, c3, hR3, hK3⟩
end Go.Proofs.YtafoohdndlhbnaaGreatDoor
end
