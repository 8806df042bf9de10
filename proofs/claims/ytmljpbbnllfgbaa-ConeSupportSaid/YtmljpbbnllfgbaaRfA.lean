/-
  The document's own graph (orreryref03): where it lies; New, Input, inputs, Gates, gate.
-/
import Derived.Test.YtmljpbbnllfgbaaAigAt
namespace Go.Proofs.Ytmljpbbnllfgbaa
open Go.RowKit Go.Maps
set_option maxRecDepth 100000

def rNd (n : Nd) : List Value := [.bool (!n.gate), .int .u32 n.a, .int .u32 n.b]
def rCells : List Nd → List Value
  | [] => []
  | _ :: ns => [.bool false, .int .u32 0, .int .u32 0] ++ ns.flatMap rNd
theorem rCells_push (ns : List Nd) (h : 0 < ns.length) (n : Nd) : rCells (ns ++ [n]) = rCells ns ++ rNd n := by
  cases ns with
  | nil => simp at h
  | cons m ns => simp [rCells]
theorem rTail_len (ns : List Nd) : (ns.flatMap rNd).length = ns.length * 3 := by
  induction ns with
  | nil => rfl
  | cons n ns ih => rw [List.flatMap_cons, List.length_append, ih]; simp [rNd]; omega
theorem rCells_len (ns : List Nd) : (rCells ns).length = ns.length * 3 := by
  cases ns with
  | nil => rfl
  | cons m ns => simp only [rCells, List.length_append, rTail_len, List.length_cons, List.length_nil]; omega
theorem rTail_at (ns : List Nd) (i : Nat) (n : Nd) (h : ns[i]? = some n) : (ns.flatMap rNd)[i * 3]? = some (.bool (!n.gate)) ∧ (ns.flatMap rNd)[i * 3 + 1]? = some (.int .u32 n.a) ∧ (ns.flatMap rNd)[i * 3 + 2]? = some (.int .u32 n.b) := by
  induction ns generalizing i with
  | nil => simp at h
  | cons m ns ih =>
    rw [List.flatMap_cons]
    match i with
    | 0 => simp at h; subst h; exact ⟨rfl, rfl, rfl⟩
    | i + 1 =>
      have := ih i (by simpa using h)
      have hl : (rNd m).length = 3 := rfl
      rw [List.getElem?_append_right (by omega), List.getElem?_append_right (by omega), List.getElem?_append_right (by omega)]
      rw [show (i + 1) * 3 - (rNd m).length = i * 3 by omega, show (i + 1) * 3 + 1 - (rNd m).length = i * 3 + 1 by omega, show (i + 1) * 3 + 2 - (rNd m).length = i * 3 + 2 by omega]
      exact this
theorem rCells_at (ns : List Nd) (i : Nat) (n : Nd) (h0 : 0 < i) (h : ns[i]? = some n) : (rCells ns)[i * 3]? = some (.bool (!n.gate)) ∧ (rCells ns)[i * 3 + 1]? = some (.int .u32 n.a) ∧ (rCells ns)[i * 3 + 2]? = some (.int .u32 n.b) := by
  cases ns with
  | nil => simp at h
  | cons m ns =>
    obtain ⟨i, rfl⟩ : ∃ k, i = k + 1 := ⟨i - 1, by omega⟩
    have := rTail_at ns i n (by simpa using h)
    have hl : ([.bool false, .int .u32 0, .int .u32 0] : List Value).length = 3 := rfl
    simp only [rCells]
    rw [List.getElem?_append_right (by omega), List.getElem?_append_right (by omega), List.getElem?_append_right (by omega)]
    rw [show (i + 1) * 3 - ([.bool false, .int .u32 0, .int .u32 0] : List Value).length = i * 3 by omega, show (i + 1) * 3 + 1 - ([.bool false, .int .u32 0, .int .u32 0] : List Value).length = i * 3 + 1 by omega, show (i + 1) * 3 + 2 - ([.bool false, .int .u32 0, .int .u32 0] : List Value).length = i * 3 + 2 by omega]
    exact this

/-- A document's graph that a call has made for itself. -/
structure Rf (w0 w : World) (B g c : Nat) (F H : Bool) (ns : List Nd) : Prop where
  box : w.heap[B]? = some (.cells #[.bool F, .bool H, .slice (some ⟨g, 0, none⟩) ns.length c] 72 (0, 0))
  row : w.ownsRow w0.heap.size 103 3 (.slice (some ⟨g, 0, none⟩) ns.length c) ns.length (rCells ns)
  lo : w0.heap.size ≤ B
  below : Below w0.heap.size w0 w
  pos : 0 < ns.length

/-- The document's graphs' blocks. -/
def RK (w : World) (k : Nat) : Prop := ∃ cur T fz, w.heap[k]? = some (.cells cur T fz) ∧ (T = 72 ∨ T = 103)
theorem RK.trans {a b c : World} (h : Kept (RK a) a b) (k : Kept (RK b) b c) : Kept (RK a) a c :=
  h.trans k (fun x hx => by
    by_cases hl : x < a.heap.size
    · by_cases hn : RK a x
      · exact .inl hn
      · obtain ⟨cur, T, fz, h1, h2⟩ := hx
        rw [h.block x hl hn] at h1
        exact absurd ⟨cur, T, fz, h1, h2⟩ hn
    · exact .inr (by omega))
theorem RK.refl (w : World) : Kept (RK w) w w := Kept.refl _ _
theorem RK.of_below {w w2 : World} (h : Below w.heap.size w w2) : Kept (RK w) w w2 := Kept.of_below h

theorem Rf.blt {w0 w : World} {B g c : Nat} {F H : Bool} {ns : List Nd} (h : Rf w0 w B g c F H ns) : B < w.heap.size := (Array.getElem?_eq_some_iff.1 h.box).1
theorem Rf.glt {w0 w : World} {B g c : Nat} {F H : Bool} {ns : List Nd} (h : Rf w0 w B g c F H ns) : g < w.heap.size := own_lt h.row
theorem Rf.gty {w0 w : World} {B g c : Nat} {F H : Bool} {ns : List Nd} (h : Rf w0 w B g c F H ns) : ∃ cur, w.heap[g]? = some (.cells cur 103 (0, 0)) := own_type h.row rfl
theorem Rf.ne {w0 w : World} {B g c : Nat} {F H : Bool} {ns : List Nd} (h : Rf w0 w B g c F H ns) : B ≠ g := by
  obtain ⟨cur, hc⟩ := h.gty
  intro e
  have := h.box
  rw [e, hc] at this; simp at this
theorem Rf.step {w0 w w2 : World} {B g c : Nat} {F H : Bool} {ns : List Nd} (h : Rf w0 w B g c F H ns) (hb : Below w.heap.size w w2) : Rf w0 w2 B g c F H ns :=
  ⟨(hb.block _ h.blt).trans h.box, own_below h.row hb, h.lo, nextw h.below hb, h.pos⟩
theorem Rf.cells {w0 w : World} {B g c : Nat} {F H : Bool} {ns : List Nd} (h : Rf w0 w B g c F H ns) :
    w.cell? ⟨B, 0, none⟩ = some (.bool F) ∧ w.cell? ⟨B, 1, none⟩ = some (.bool H) ∧ w.cell? ⟨B, 2, none⟩ = some (.slice (some ⟨g, 0, none⟩) ns.length c) ∧ ∀ o, w.frozen? ⟨B, o, none⟩ = false := by
  have hb := h.box
  refine ⟨?_, ?_, ?_, fun o => ?_⟩ <;> simp [World.cell?, World.frozen?, hb]
theorem Rf.node {w0 w : World} {B g c : Nat} {F H : Bool} {ns : List Nd} (h : Rf w0 w B g c F H ns) {i : Nat} (h0 : 0 < i) (hi : i < ns.length) :
    w.cell? ⟨g, i * 3, none⟩ = some (.bool (!(ns.getD i ⟨false, 0, 0⟩).gate)) ∧ w.cell? ⟨g, i * 3 + 1, none⟩ = some (.int .u32 (ns.getD i ⟨false, 0, 0⟩).a) ∧ w.cell? ⟨g, i * 3 + 2, none⟩ = some (.int .u32 (ns.getD i ⟨false, 0, 0⟩).b) := by
  obtain ⟨e0, e1, e2⟩ := rCells_at ns i (ns.getD i ⟨false, 0, 0⟩) h0 (by simp [List.getD, hi])
  rw [h.row.cellAt _ (by omega), h.row.cellAt _ (by omega), h.row.cellAt _ (by omega)]
  exact ⟨e0, e1, e2⟩
/-- Kept while blocks of other types change. -/
theorem Rf.kept {w0 w w2 : World} {B g c : Nat} {F H : Bool} {ns : List Nd} (h : Rf w0 w B g c F H ns) {K : Nat → Prop} (hk : Kept K w w2) (hK : ∀ k, K k → w0.heap.size ≤ k) (h1 : ¬ K B) (h2 : ¬ K g) : Rf w0 w2 B g c F H ns :=
  ⟨(hk.block _ h.blt h1).trans h.box, own_keptF h.row hk (fun k e => by simp [Value.ownBlock] at e; subst e; exact h2), h.lo, h.below.trans (hk.below hK h.below.size), h.pos⟩
theorem Rf.aside {w0 w w2 : World} {B g c : Nat} {F H : Bool} {ns : List Nd} (h : Rf w0 w B g c F H ns) {p : Pl} {G : Gr} (hI : Is w p G) (hp : ∀ k, p.has k → w0.heap.size ≤ k) (hk : Kept p.has w w2) : Rf w0 w2 B g c F H ns := by
  obtain ⟨cur, hc⟩ := h.gty
  exact h.kept hk hp (hI.other h.box (by decide) (by decide) (by decide)) (hI.other hc (by decide) (by decide) (by decide))
theorem AtG.aside {w0 w w2 : World} {B : Nat} {p : Pl} {G : Gr} (h : AtG w0 B w p G) (hk : Kept (RK w) w w2) (hb : Below w0.heap.size w0 w2) : AtG w0 B w2 p G :=
  ⟨h.is.beside hk (fun k ⟨cur, T, fz, hc, hT⟩ => h.is.other hc (by rcases hT with rfl | rfl <;> decide) (by rcases hT with rfl | rfl <;> decide) (by rcases hT with rfl | rfl <;> decide)), h.wf, h.b, h.out, hb, h.len⟩

/-- Behind the append and the store. -/
theorem rf_next {w0 w wa w1 : World} {B g c : Nat} {F H : Bool} {ns : List Nd} (h : Rf w0 w B g c F H ns) (hb : Below w.heap.size w wa) (n : Nd) {g1 cap1 : Nat}
    (hown : w1.ownsRow w0.heap.size 103 3 (.slice (some ⟨g1, 0, none⟩) (ns.length + 1) cap1) (ns.length + 1) (rCells ns ++ [.bool (!n.gate), .int .u32 n.a, .int .u32 n.b]))
    (hg : wa.grownBy w1 (some g)) (hat : some g = some g1 ∨ g1 = wa.heap.size) :
    Rf w0 (w1.setCell ⟨B, 2, none⟩ (.slice (some ⟨g1, 0, none⟩) (ns.length + 1) cap1)) B g1 cap1 F H (ns ++ [n])
      ∧ Kept (RK w) w (w1.setCell ⟨B, 2, none⟩ (.slice (some ⟨g1, 0, none⟩) (ns.length + 1) cap1)) := by
  have hlt := h.blt
  have hsz := hb.size
  have hne := h.ne
  obtain ⟨cur, hcur⟩ := h.gty
  have hbox1 : w1.heap[B]? = some (.cells #[.bool F, .bool H, .slice (some ⟨g, 0, none⟩) ns.length c] 72 (0, 0)) := by
    rw [hg.block B (by omega) (by simpa using hne), hb.block _ hlt]; exact h.box
  have hgb : g1 ≠ B := by
    rcases hat with e | e
    · simp at e; omega
    · omega
  have hK : Kept (RK w) w (w1.setCell ⟨B, 2, none⟩ (.slice (some ⟨g1, 0, none⟩) (ns.length + 1) cap1)) := by
    refine ⟨hg.os.trans hb.os, hg.tape.trans hb.tape, hg.output.trans hb.output, by have := hg.size; simp [World.setCell]; omega, fun k hk hn => ?_⟩
    have n1 : k ≠ B := fun e => hn (by subst e; exact ⟨_, _, _, h.box, .inl rfl⟩)
    have n2 : k ≠ g := fun e => hn (by subst e; exact ⟨_, _, _, hcur, .inr rfl⟩)
    rw [Below.heap_setCell _ _ _ _ n1, hg.block k (by omega) (by simpa using n2), hb.block k hk]
  refine ⟨⟨?_, ?_, h.lo, ?_, by simp⟩, hK⟩
  · have := box_set (o := 2) hbox1 (.slice (some ⟨g1, 0, none⟩) (ns.length + 1) cap1)
    simpa using this
  · rw [rCells_push _ h.pos, List.length_append, List.length_singleton]
    refine ⟨hown.1, ?_⟩
    rcases hown.2 with h0 | ⟨g', cap', cur', hv, hg', hh, r⟩
    · exact .inl h0
    · simp at hv
      obtain ⟨rfl, rfl⟩ := hv
      exact .inr ⟨_, _, cur', rfl, hg', by rw [Below.heap_setCell _ _ _ _ hgb]; exact hh, r⟩
  · have h1 : Below w0.heap.size w0 w1 := (nextw h.below hb).grown hg (Nat.le_trans h.below.size hsz) (fun k hk => by
      cases hk
      have := own_ge h.row g rfl
      exact this)
    exact h1.setCell h.lo _

theorem info_rnode : (Try.prog.info? 103).map (fun i => (i.zero, i.size, i.bytes)) = some (some (.agg #[.bool false, .int .u32 0, .int .u32 0]), 3, 12) := by kernel_rfl

theorem rnew_any (F H : Bool) (w0 w : World) (h0 : Below w0.heap.size w0 w) :
    Calls Try.prog 29 #[.bool F, .bool H] w fun e w' => ∃ B g c, e = .returned (.pointer (some ⟨B, 0, none⟩)) ∧ Rf w0 w' B g c F H [⟨false, 0, 0⟩] ∧ Below w.heap.size w w' := by
  obtain ⟨i0, hi, hz0, hz1, hz2⟩ := info_parts info_rnode
  go_enter Try.func29, Try.ntmps29
  go_wp2_with (at_make; refine wpList_make_full _ rfl _ _ 70 rfl w.heap.size 103 i0 (.agg #[.bool false, .int .u32 0, .int .u32 0]) 3 Try.underlying70 hi hz0 hz1 .i64 .i64 1 1 1 rfl rfl rfl rfl (by rw [hz2]; omega) (by unfold maxLen; omega) (Nat.le_refl _) ?_; intro w1 hown hg; have hB1 : Below w.heap.size w w1 := (Below.refl w.heap.size w).grown hg (Nat.le_refl _) (fun _ h => by cases h))
  go_ret
  refine ⟨w1.heap.size, w.heap.size, 1, rfl, ⟨Deep.blk_alloc_new _ _, ?_, Nat.le_trans h0.size hB1.size, nextw h0 (hB1.alloc hB1.size _), by simp⟩, hB1.alloc hB1.size _⟩
  have e : (madeCells (Value.agg #[Value.bool false, Value.int IntKind.u32 0, Value.int IntKind.u32 0]).cells (1 * 3)).toList = rCells [⟨false, 0, 0⟩] := by kernel_rfl
  rw [e] at hown
  exact own_base (hown.alloc _) h0.size

/-- How many inputs there are below i. -/
def cI (ns : List Nd) : Nat → Nat
  | 0 => 0
  | i + 1 => cI ns i + if (decide (0 < i) && !(ns.getD i ⟨false, 0, 0⟩).gate) = true then 1 else 0
theorem cI_lt (ns : List Nd) (i : Nat) : cI ns (i + 1) ≤ i := by
  induction i with
  | zero => simp [cI]
  | succ i ih => rw [cI]; split <;> omega
theorem rinputs_any {w0 w : World} {B g c : Nat} {F H : Bool} {ns : List Nd} (h : Rf w0 w B g c F H ns) (hm : ns.length ≤ 200000) :
    Calls Try.prog 80 #[.pointer (some ⟨B, 0, none⟩)] w fun e w' => e = .returned (.int .i64 (cI ns ns.length)) ∧ w = w' := by
  obtain ⟨-, -, c2, -⟩ := h.cells
  have hn := Lib.hid (fun i (h0 : 0 < i) (hi : i < ns.length) => (h.node h0 hi).1)
  have hp := h.pos
  generalize hk : ns.length = k at *
  have hs := Lib.hid (fun i (h0 : 0 < i) => show cI ns (i + 1) = cI ns i + if (!(ns.getD i ⟨false, 0, 0⟩).gate) = true then 1 else 0 by simp [cI, h0])
  have hl := Lib.hid (cI_lt ns)
  have h1 := Lib.hid (show cI ns 1 = 0 from by simp [cI])
  generalize cI ns = C at *
  clear h hk
  go_enter Try.func80, Try.ntmps80
  go_wp2
  go_loopw [3, 4] (fun s3 s4 wr => wr = w ∧ ∃ i : Nat, s4 = .int .i64 i ∧ s3 = .int .i64 (C i) ∧ 0 < i ∧ i ≤ k) (fun _ s4 _ => k - (intOf s4).toNat)
  case atStart => exact ⟨rfl, 1, rfl, by rw [h1.out]; rfl, by omega, by omega⟩
  case round =>
    obtain ⟨rfl, i, rfl, rfl, h0, hi⟩ := hrel
    by_cases hlt : i < k
    · have hc := hn.out i h0 hlt
      have hsi := Lib.hid (hs.out i h0)
      have hli := Lib.hid (hl.out i)
      have hCi : C i ≤ i := by have := hsi.out; have := hli.out; omega
      generalize (!(ns.getD i ⟨false, 0, 0⟩).gate) = b at *
      generalize C i = m at *
      cases b with
      | false =>
        go_wp2
        go_roundw
        case rel => exact ⟨trivial, i + 1, by go_num, by rw [hsi.out]; rfl, by omega, by omega⟩
        case measure => simp [intOf]; omega
      | true =>
        go_wp2
        go_roundw
        case rel => exact ⟨trivial, i + 1, by go_num, by rw [hsi.out]; go_num, by omega, by omega⟩
        case measure => simp [intOf]; omega
    · obtain rfl : i = k := by omega
      go_wp2
      go_ret
      exact ⟨rfl, rfl⟩

theorem rgates_any {w0 w : World} {B g c : Nat} {F H : Bool} {ns : List Nd} (h : Rf w0 w B g c F H ns) (hm : ns.length ≤ 200000) :
    Calls Try.prog 77 #[.pointer (some ⟨B, 0, none⟩)] w fun e w' => (∃ m : Int, e = .returned (.int .i64 m) ∧ m < ns.length) ∧ Below w.heap.size w w' := by
  obtain ⟨-, -, c2, -⟩ := h.cells
  have hi := Lib.hid (fun w2 (hb : Below w.heap.size w w2) => rinputs_any (h.step hb) hm)
  have hBn := Lib.hid (fun n => below_draws w n)
  have hp := h.pos
  have hl : cI ns ns.length < ns.length := by
    have := cI_lt ns (ns.length - 1)
    rw [show ns.length - 1 + 1 = ns.length by omega] at this
    omega
  generalize cI ns ns.length = m at *
  generalize hk : ns.length = k at *
  have c2' := fun n => stepc (hBn.out n) (h.blt) c2
  clear h hk
  go_enter Try.func77, Try.ntmps77
  go_wp2
  go_quiet (first | (go_at_call 80; with_reducible exact Calls.quiet_of_same ((hi.out _ (hBn.out _)).mono (fun _ _ h => ⟨h.1, h.2.symm⟩))))
  go_wp2
  go_ret
  exact ⟨⟨(k : Int) - 1 - m, by congr 2, by omega⟩, below_draws _ _⟩

theorem rinput_any {w0 w : World} {B g c : Nat} {F H : Bool} {ns : List Nd} (h : Rf w0 w B g c F H ns) (hm : ns.length ≤ 200000) :
    Calls Try.prog 30 #[.pointer (some ⟨B, 0, none⟩)] w fun e w' => (∃ v, e = .returned v) ∧ ∃ g1 c1, Rf w0 w' B g1 c1 F H (ns ++ [⟨false, 0, 0⟩]) ∧ Kept (RK w) w w' := by
  obtain ⟨-, -, c2, f2⟩ := h.cells
  have f2 := f2 2
  have hlt := h.blt
  have hglt := h.glt
  have HR := Lib.hid h.row
  have HF := Lib.hid h
  have hne2 : some B ≠ Value.ownBlock (.slice (some ⟨g, 0, none⟩) ns.length c) := by have := h.ne; simpa [Value.ownBlock] using this
  have hp := h.pos
  have hs0 := h.below.size
  obtain ⟨i0, hi, hz0, hz1, hz2⟩ := info_parts info_rnode
  have g0 : decide ((278528 : Int) < (ns.length : Int)) = false := by simp; omega
  generalize hk : ns.length = k at *
  have hk := Lib.hid hk
  clear h
  go_enter Try.func30, Try.ntmps30
  go_wp2_with (at_builtin; refine wpList_append_lies _ rfl _ _ 70 rfl w0.heap.size 103 i0 (.agg #[.bool false, .int .u32 0, .int .u32 0]) 3 12 Try.underlying70 hi hz0 hz1 hz2 rfl (by decide) (.slice (some ⟨g, 0, none⟩) k c) k _ rfl (HR.out.alloc _) ⟨w.heap.size, 0, none⟩ 1 1 [.bool true, .int .u32 0, .int .u32 0] rfl rfl (news3 (by go_simp) (by go_simp) (by go_simp)) (by simp [Value.oneCell']) (by decide) (by unfold maxLen; omega) (by omega) (by simp; omega) _ rfl ?_; intro g1 cap1 w1 hown1 hgrow1 hat1 hlt1; obtain ⟨x0, x1⟩ := grow_box hgrow1 (b := B) (o := 2) (v := .slice (some ⟨g, 0, none⟩) k c) (by go_simp) (by go_simp) hne2)
  go_ret2
  obtain ⟨r1, r2⟩ := rf_next HF.out ((Below.refl _ _).alloc (Nat.le_refl _) _) ⟨false, 0, 0⟩ (by rw [hk.out]; exact hown1) hgrow1 hat1
  rw [hk.out] at r1 r2
  exact ⟨⟨_, rfl⟩, _, _, r1, r2⟩
end Go.Proofs.Ytmljpbbnllfgbaa
