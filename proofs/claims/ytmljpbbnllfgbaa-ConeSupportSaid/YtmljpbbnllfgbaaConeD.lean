/-
  Depth: plainly; the walks.
-/
import Derived.Test.YtmljpbbnllfgbaaConeR
import Derived.Deep.RegionHeld3
namespace Go.Proofs.Ytmljpbbnllfgbaa
open Go.RowKit Go.Maps Num
set_option maxRecDepth 100000

def depF (G : Gr) : Nat → Nat → Nat
  | 0, _ => 0
  | k + 1, i => if (nodeAt G i).gate then 1 + max (depF G k (nodeN (nodeAt G i).a)) (depF G k (nodeN (nodeAt G i).b)) else 0
/-- A node's depth. -/
def dep (G : Gr) (i : Nat) : Nat := depF G (i + 1) i
theorem depF_eq {G : Gr} (hW : Wf G) : ∀ (i k : Nat), i < k → depF G k i = dep G i := by
  intro i
  induction i using Nat.strongRecOn with
  | ind i ih =>
    intro k hk
    obtain ⟨k, rfl⟩ : ∃ j, k = j + 1 := ⟨k - 1, by omega⟩
    unfold dep
    cases hg : (nodeAt G i).gate with
    | false => simp [depF, hg]
    | true =>
      obtain ⟨-, -, ha, hb, -⟩ := gate_lits hW hg
      have e1 := ih _ ha k (by omega)
      have e2 := ih _ hb k (by omega)
      have e3 := ih _ ha i ha
      have e4 := ih _ hb i hb
      simp [depF, hg, e1, e2, e3, e4]
theorem dep_gate {G : Gr} (hW : Wf G) {i : Nat} (hg : (nodeAt G i).gate = true) : dep G i = 1 + max (dep G (nodeN (nodeAt G i).a)) (dep G (nodeN (nodeAt G i).b)) := by
  obtain ⟨-, -, ha, hb, -⟩ := gate_lits hW hg
  have h1 := depF_eq hW _ i ha
  have h2 := depF_eq hW _ i hb
  show depF G (i + 1) i = _
  simp [depF, hg, h1, h2]
theorem dep_plain {G : Gr} {i : Nat} (hg : (nodeAt G i).gate = false) : dep G i = 0 := by simp [dep, depF, hg]
theorem dep_le {G : Gr} (hW : Wf G) (i : Nat) : dep G i ≤ i := by
  induction i using Nat.strongRecOn with
  | ind i ih =>
    cases hg : (nodeAt G i).gate with
    | false => rw [dep_plain hg]; omega
    | true =>
      obtain ⟨-, -, ha, hb, -⟩ := gate_lits hW hg
      rw [dep_gate hW hg]
      have := ih _ ha
      have := ih _ hb
      omega
theorem nodeAt_zero {G : Gr} (hW : Wf G) : nodeAt G 0 = ⟨false, 0, 0⟩ := by
  have := nodeAt_some (G := G) (i := 0) hW.pos
  rw [hW.zero] at this
  exact (Option.some.inj this).symm
theorem dep_zero {G : Gr} (hW : Wf G) : dep G 0 = 0 := dep_plain (by rw [nodeAt_zero hW])

theorem ite_iff {p q : Prop} [Decidable p] [Decidable q] (h : p ↔ q) (x y : Int) : (if p then x else y) = if q then x else y := by
  by_cases hp : p
  · rw [if_pos hp, if_pos (h.1 hp)]
  · rw [if_neg hp, if_neg (fun hq => hp (h.2 hq))]
open Classical in
/-- The depths told so far. -/
noncomputable def dv (G : Gr) (l : List Int) (i j : Nat) : Int := if j < i ∧ ReachP G l j then (dep G j : Int) else 0
/-- The greatest depth of those that are leant on, so far. -/
noncomputable def mxTo (G : Gr) (l : List Int) (i : Nat) : Nat := (selTo (ReachP G l) i).foldl (fun m j => max m (dep G j)) 0
noncomputable def depL (G : Gr) (l : List Int) : Nat := mxTo G l G.nodes.length
theorem mx_yes {G : Gr} {l : List Int} {i : Nat} (h : ReachP G l i) : mxTo G l (i + 1) = max (mxTo G l i) (dep G i) := by
  unfold mxTo; rw [selTo_yes h, List.foldl_append]; rfl
theorem mx_no {G : Gr} {l : List Int} {i : Nat} (h : ¬ ReachP G l i) : mxTo G l (i + 1) = mxTo G l i := by
  unfold mxTo; rw [selTo_no h]
theorem mx_le {G : Gr} (hW : Wf G) (l : List Int) (i : Nat) : mxTo G l i ≤ i := by
  induction i with
  | zero => exact Nat.le_refl _
  | succ i ih =>
    have := dep_le hW i
    by_cases h : ReachP G l i
    · rw [mx_yes h]; omega
    · rw [mx_no h]; omega
open Classical in
theorem dv_skip {G : Gr} {l : List Int} {i : Nat} (h : ¬ ReachP G l i) (j : Nat) : dv G l (i + 1) j = dv G l i j := by
  unfold dv
  by_cases e : j = i
  · subst e; simp [h]
  · exact ite_iff (by constructor <;> rintro ⟨a, b⟩ <;> exact ⟨by omega, b⟩) _ _
open Classical in
theorem dv_plain {G : Gr} {l : List Int} {i : Nat} (h : dep G i = 0) (j : Nat) : dv G l (i + 1) j = dv G l i j := by
  unfold dv
  by_cases e : j = i
  · subst e; simp [h]
  · exact ite_iff (by constructor <;> rintro ⟨a, b⟩ <;> exact ⟨by omega, b⟩) _ _
open Classical in
theorem dv_set {G : Gr} {l : List Int} {i N : Nat} (h : ReachP G l i) (hi : i < N) : (Bits.row N (dv G l i)).set i (dep G i : Int) = Bits.row N (dv G l (i + 1)) := by
  apply List.ext_getElem
  · simp [Bits.row]
  · intro k h1 h2
    simp only [Bits.row, List.length_set, List.length_map, List.length_range] at h1
    rw [List.getElem_set]
    simp only [Bits.row, List.getElem_map, List.getElem_range]
    unfold dv
    by_cases e : i = k
    · subst e; simp [h]
    · rw [if_neg e]
      exact ite_iff (by constructor <;> rintro ⟨a, b⟩ <;> exact ⟨by omega, b⟩) _ _
open Classical in
theorem dv_lit {G : Gr} (hW : Wf G) {l : List Int} {i x : Nat} (hx : x < i) (hL : Leans G l x) : dv G l i x = (dep G x : Int) := by
  unfold dv
  by_cases h0 : 0 < x
  · rw [if_pos ⟨hx, h0, hL⟩]
  · obtain rfl : x = 0 := by omega
    rw [dep_zero hW]; simp

/-- The row of depths behind its box, and the greatest one. -/
structure DepB (base : Nat) (wr : World) (g q r N : Nat) (D : List Int) (m : Nat) : Prop where
  lo : base ≤ g ∧ g < q ∧ q < r
  len : D.length = N
  row : wr.ownsRow base 3 1 (.slice (some ⟨g, 0, none⟩) N N) N (D.map (Value.int .i64))
  bq : wr.heap[q]? = some (.cells #[.slice (some ⟨g, 0, none⟩) N N] 37 (0, 0))
  br : wr.heap[r]? = some (.cells #[.int .i64 (m : Int)] 3 (0, 0))
theorem DepB.step {base g q r N m : Nat} {wr w2 : World} {D : List Int} (h : DepB base wr g q r N D m) (hb : Below wr.heap.size wr w2) : DepB base w2 g q r N D m :=
  ⟨h.lo, h.len, own_below h.row hb, (hb.block _ (Array.getElem?_eq_some_iff.1 h.bq).1).trans h.bq, (hb.block _ (Array.getElem?_eq_some_iff.1 h.br).1).trans h.br⟩
theorem DepB.setD {base g q r N m : Nat} {wr : World} {D : List Int} (h : DepB base wr g q r N D m) {i : Nat} {x : Int} : DepB base (wr.setCell ⟨g, i, none⟩ (.int .i64 x)) g q r N (D.set i x) m := by
  have hg := h.lo
  refine ⟨h.lo, by rw [List.length_set]; exact h.len, ?_, ?_, ?_⟩
  · have := (h.row.stored i (.int .i64 x)).1
    rw [← List.map_set] at this; exact this
  · rw [Below.heap_setCell _ _ _ _ (by omega : q ≠ g)]; exact h.bq
  · rw [Below.heap_setCell _ _ _ _ (by omega : r ≠ g)]; exact h.br
theorem DepB.setM {base g q r N m : Nat} {wr : World} {D : List Int} (h : DepB base wr g q r N D m) {x : Nat} : DepB base (wr.setCell ⟨r, 0, none⟩ (.int .i64 (x : Int))) g q r N D x := by
  have hg := h.lo
  refine ⟨h.lo, h.len, own_keptF h.row (F := fun k => k = r) ⟨rfl, rfl, rfl, by simp [World.setCell], fun k _ hn => Below.heap_setCell _ _ _ _ hn⟩ (fun k e => by simp [Value.ownBlock] at e; omega), ?_, ?_⟩
  · rw [Below.heap_setCell _ _ _ _ (by omega : q ≠ r)]; exact h.bq
  · have := box_set (o := 0) h.br (.int .i64 (x : Int))
    simpa using this

theorem Kept.weaken {F F' : Nat → Prop} {w w' : World} (h : Kept F w w') (hF : ∀ k, F k → F' k) : Kept F' w w' := ⟨h.os, h.tape, h.output, h.size, fun k hk hn => h.block k hk (fun hf => hn (hF k hf))⟩
theorem DepB.sameB {base g q r N m : Nat} {wr w2 : World} {D : List Int} (h : DepB base wr g q r N D m) (hK : Kept (fun k => k = g ∨ k = r) wr w2) : SameB wr w2 :=
  SameB.kept hK (fun k hk cur hc => by
    rcases hk with rfl | rfl
    · obtain ⟨c2, h2⟩ := own_type h.row rfl
      rw [h2] at hc; simp at hc
    · rw [h.br] at hc; simp at hc)
theorem cell_set_off (w : World) (g : Nat) {i A : Nat} (v : Value) (h : A ≠ i) : (w.setCell ⟨g, i, none⟩ v).drew.cell? ⟨g, A, none⟩ = w.cell? ⟨g, A, none⟩ := by
  show (w.setCell ⟨g, i, none⟩ v).cell? ⟨g, A, none⟩ = _
  simp [go_sem, h, Ne.symm h]
set_option maxHeartbeats 1000000 in
theorem depth1_any {base g q r N m : Nat} {wr : World} {D : List Int} (h : DepB base wr g q r N D m) {i : Nat} {a b : Int} (ha : IsLit a) (hb : IsLit b) (hi : i < N) (hai : nodeN a < i) (hbi : nodeN b < i) {x y : Nat} (hx : D.getD (nodeN a) 0 = x) (hy : D.getD (nodeN b) 0 = y) (hN : N ≤ 200000) (hxl : x ≤ 200000) (hyl : y ≤ 200000) :
    Calls Try.prog 54 #[.int .i64 i, .int .u32 a, .int .u32 b, .bool true, .pointer (some ⟨q, 0, none⟩), .pointer (some ⟨r, 0, none⟩)] wr fun e w' => e = .returned (.int .i64 0) ∧ DepB base w' g q r N (D.set i (1 + max (x : Int) y)) (max m (1 + max x y)) ∧ Below base wr w' ∧ SameB wr w' := by
  have hql : q < wr.heap.size := (Array.getElem?_eq_some_iff.1 h.bq).1
  have hrl : r < wr.heap.size := (Array.getElem?_eq_some_iff.1 h.br).1
  have hgl := own_lt h.row
  have hbq : wr.cell? ⟨q, 0, none⟩ = some (.slice (some ⟨g, 0, none⟩) N N) := by simp [World.cell?, h.bq]
  have hbr : wr.cell? ⟨r, 0, none⟩ = some (.int .i64 (m : Int)) := by simp [World.cell?, h.br]
  have hna := Lib.hid (fun w => node_any a ha w)
  have hnb := Lib.hid (fun w => node_any b hb w)
  rw [← nodeN_int ha] at hna
  rw [← nodeN_int hb] at hnb
  have hat : ∀ k, k < N → wr.cell? ⟨g, k, none⟩ = some (.int .i64 (D.getD k 0)) := fun k hk => by
    rw [h.row.cellAt (j := k) (by simp [h.len]; exact hk), List.getElem?_map]
    have := h.len
    simp [List.getD, show k < D.length by omega]
  have ca := hat _ (show nodeN a < N by omega)
  have cb := hat _ (show nodeN b < N by omega)
  have ci := hat _ hi
  rw [hx] at ca
  rw [hy] at cb
  have hfr := h.row.frozenAt i
  have H := Lib.hid h
  have hlo := h.lo
  generalize nodeN a = A at *
  generalize nodeN b = B at *
  clear hat hx hy ha hb h
  go_enter Try.func54, Try.ntmps54
  go_upto_region 2 with fail
  have hAi : A ≠ i := by omega
  have hBi : B ≠ i := by omega
  have hAN : (A : Int) < N := by omega
  have hBN : (B : Int) < N := by omega
  have hiN : (i : Int) < N := by omega
  have hgq : g ≠ q := by omega
  have hkA : ∀ v, (wr.setCell ⟨g, i, none⟩ v).drew.cell? ⟨g, A, none⟩ = some (.int .i64 x) := fun v => (cell_set_off wr g v hAi).trans ca
  have hkB : ∀ v, (wr.setCell ⟨g, i, none⟩ v).drew.cell? ⟨g, B, none⟩ = some (.int .i64 y) := fun v => (cell_set_off wr g v hBi).trans cb
  go_region_held3 (fun w' => w'.cell? ⟨q, 0, none⟩ = some (.slice (some ⟨g, 0, none⟩) N N) ∧ w'.cell? ⟨g, A, none⟩ = some (.int .i64 x) ∧ w'.cell? ⟨g, B, none⟩ = some (.int .i64 y)) (go_keep) (first
    | (go_at_call 22; (with_reducible refine (hna.out _).mono ?_); rintro e w4 ⟨rfl, rfl⟩)
    | (go_at_call 22; (with_reducible refine (hnb.out _).mono ?_); rintro e w4 ⟨rfl, rfl⟩))
  have hv : IntKind.i64.wrap (1 + if x < y then (y : Int) else (x : Int)) = ((1 + max x y : Nat) : Int) := by
    split
    · rw [IntWalk.i64_in _ (by omega)]; omega
    · rw [IntWalk.i64_in _ (by omega)]; omega
  rw [hv]
  clear hv
  generalize (if x < y then (y : Int) else (x : Int)) = z24
  have H2 := Lib.hid (H.out.setD (i := i) (x := ((1 + max x y : Nat) : Int)))
  have H3 := Lib.hid (H2.out.step (Below.refl _ _).drew)
  have hK3 : Hid (Kept (fun k => k = g ∨ k = r) wr (wr.setCell ⟨g, i, none⟩ (.int .i64 ((1 + max x y : Nat) : Int))).drew) := Lib.hid ((kept_set wr g i _).weaken (fun k hk => .inl hk))
  have hB3 : Hid (Below base wr (wr.setCell ⟨g, i, none⟩ (.int .i64 ((1 + max x y : Nat) : Int))).drew) := Lib.hid ((Below.refl _ _).setCell (show base ≤ g from hlo.1) _).drew
  generalize (wr.setCell ⟨g, i, none⟩ (.int .i64 ((1 + max x y : Nat) : Int))).drew = w3 at *
  have hbq3 : w3.cell? ⟨q, 0, none⟩ = some (.slice (some ⟨g, 0, none⟩) N N) := by simp [World.cell?, H3.out.bq]
  have hbr3 : w3.cell? ⟨r, 0, none⟩ = some (.int .i64 (m : Int)) := by simp [World.cell?, H3.out.br]
  have hbf3 : w3.frozen? ⟨r, 0, none⟩ = false := by simp [World.frozen?, H3.out.br]
  have ci3 : w3.cell? ⟨g, i, none⟩ = some (.int .i64 ((1 + max x y : Nat) : Int)) := by
    rw [H3.out.row.cellAt (j := i) (by simp [H3.out.len]; exact hi), List.getElem?_map]
    have := H.out.len
    simp [show i < D.length by omega]
  have hcast : Hid ((1 + max (x : Int) y) = ((1 + max x y : Nat) : Int)) := Lib.hid (by omega)
  generalize hM : 1 + max x y = M at *
  have hM2 := Lib.hid hM
  clear hkA hkB ca cb ci hfr hbq hbr H2 hM
  go_wp2
  go_still_tail 6, (by kernel_rfl)
  change wpList _ _ _ _ _ w3.drew
  go_wp2
  all_goals
    have hS4 := fun v => H.out.sameB (hK3.out.trans (F' := fun k => k = g ∨ k = r) ((kept_set w3 r 0 v).weaken (fun k hk => .inr hk)) (fun x hx => .inl hx))
    have hB4 := fun v => hB3.out.trans (((Below.refl base w3).setCell (show base ≤ (⟨r, 0, none⟩ : Addr).block from (by show base ≤ r; omega)) v).drew)
    go_ret
  · rename_i hlt
    refine ⟨rfl, ?_, hB4 _, hS4 _⟩
    rw [hM2.out, hcast.out]
    have := (H3.out.setM (x := M)).step (Below.refl _ _).drew
    rw [show max m M = M by omega]; exact this
  · rename_i hlt
    refine ⟨rfl, ?_, hB4 _, hS4 _⟩
    rw [hM2.out, hcast.out]
    have := (H3.out.setM (x := m)).step (Below.refl _ _).drew
    rw [show max m M = m by omega]; exact this

theorem depth0_any (wr : World) (i : Nat) (a b : Int) (q r : Nat) :
    Calls Try.prog 54 #[.int .i64 i, .int .u32 a, .int .u32 b, .bool false, .pointer (some ⟨q, 0, none⟩), .pointer (some ⟨r, 0, none⟩)] wr fun e w' => e = .returned (.int .i64 0) ∧ wr = w' := by
  go_enter Try.func54, Try.ntmps54
  go_wp2
  go_ret
  exact ⟨rfl, rfl⟩

def DepQ (w : World) (G : Gr) (l : List Int) (q r : Nat) (i : Nat) (wr : World) : Prop := Below w.heap.size w wr ∧ (i ≤ G.nodes.length → DepB w.heap.size wr w.heap.size q r G.nodes.length (Bits.row G.nodes.length (dv G l i)) (mxTo G l i))
theorem dep_met {w : World} {p : Pl} {G : Gr} (hI : Is w p G) (hm : G.nodes.length ≤ 200000) {l : List Int} (hW : Wf G) (hl : AllThere G l) (q r : Nat) : Met p.b G l 54 #[.pointer (some ⟨q, 0, none⟩), .pointer (some ⟨r, 0, none⟩)] (DepQ w G l q r) where
  is := fun i wr h => ⟨p, rfl, hI.below h.1⟩
  below := fun i wr w' h hb => ⟨nextw h.1 hb, fun hi => (h.2 hi).step hb⟩
  skip := fun i wr h hn => ⟨h.1, fun hi => by
    have := h.2 (by omega)
    rw [mx_no hn, show dv G l (i + 1) = dv G l i from funext (dv_skip hn)]
    exact this⟩
  call := fun i wr h h0 hL => by
    have hi := hL.lt hW hl
    cases hg : (nodeAt G i).gate with
    | false =>
      refine (depth0_any wr i _ _ q r).mono (fun e w' ⟨he, hw⟩ => ⟨he, ?_, SameB.below (hw ▸ Below.refl _ _)⟩)
      subst hw
      refine ⟨h.1, fun hi2 => ?_⟩
      have := h.2 (by omega)
      rw [mx_yes ⟨h0, hL⟩, dep_plain hg, show dv G l (i + 1) = dv G l i from funext (dv_plain (dep_plain hg)), Nat.max_zero]
      exact this
    | true =>
      obtain ⟨ta, tb, la, lb, -⟩ := gate_lits hW hg
      have hda := dep_le hW (nodeN (nodeAt G i).a)
      have hdb := dep_le hW (nodeN (nodeAt G i).b)
      have hx : (Bits.row G.nodes.length (dv G l i)).getD (nodeN (nodeAt G i).a) 0 = (dep G (nodeN (nodeAt G i).a) : Int) := by
        rw [getD_row _ _ _ (by omega)]; exact dv_lit hW la (.a hL hg)
      have hy : (Bits.row G.nodes.length (dv G l i)).getD (nodeN (nodeAt G i).b) 0 = (dep G (nodeN (nodeAt G i).b) : Int) := by
        rw [getD_row _ _ _ (by omega)]; exact dv_lit hW lb (.b hL hg)
      refine (depth1_any (h.2 (by omega)) ta.1 tb.1 hi la lb hx hy hm (by omega) (by omega)).mono (fun e w' ⟨he, hb, hB, hS⟩ => ⟨he, ⟨h.1.trans hB, fun hi2 => ?_⟩, hS⟩)
      have e1 : (1 + max (dep G (nodeN (nodeAt G i).a) : Int) (dep G (nodeN (nodeAt G i).b) : Int)) = (dep G i : Int) := by rw [dep_gate hW hg]; omega
      rw [e1, dv_set ⟨h0, hL⟩ hi] at hb
      rw [mx_yes ⟨h0, hL⟩, dep_gate hW hg]
      exact hb

theorem dv_zero (G : Gr) (l : List Int) (N : Nat) : List.replicate N (0 : Int) = Bits.row N (dv G l 0) := by
  apply List.ext_getElem
  · simp [Bits.row]
  · intro i h1 h2; simp [Bits.row, dv]
theorem mx_zero (G : Gr) (l : List Int) : mxTo G l 0 = 0 := rfl
set_option maxHeartbeats 1000000 in
theorem Depth_any {w : World} {p : Pl} {G : Gr} (hI : Is w p G) (hW : Wf G) (hm : G.nodes.length ≤ 200000) {a : Option Addr} {n c : Nat} {l : List Int} (hs : Row .u32 w a n l) (hl : AllThere G l) :
    Calls Try.prog 24 #[.pointer (some ⟨p.b, 0, none⟩), .slice a n c] w fun e w' => e = .returned (.tuple #[.int .i64 (depL G l), .int .i64 0]) ∧ Below w.heap.size w w' := by
  have hno := Lib.hid (nodes_any hI.lay hW.pos)
  have hrow := dv_zero G l G.nodes.length
  have ht : Hid (∀ w1, Below w.heap.size w w1 → w.heap.size < w1.heap.size → w1.ownsRow w.heap.size 3 1 (.slice (some ⟨w.heap.size, 0, none⟩) G.nodes.length G.nodes.length) G.nodes.length ((List.replicate G.nodes.length (0 : Int)).map (Value.int .i64)) →
      Calls Try.prog 45 #[.pointer (some ⟨p.b, 0, none⟩), .func (.func 54) #[] #[.pointer (some ⟨w1.heap.size, 0, none⟩), .pointer (some ⟨w1.heap.size + 1, 0, none⟩)], .slice a n c] ((w1.alloc (.cells #[.slice (some ⟨w.heap.size, 0, none⟩) G.nodes.length G.nodes.length] 37)).alloc (.cells #[.int .i64 0] 3)) fun e w' => e = .returned (.int .i64 0) ∧ Below w.heap.size w w' ∧ w'.cell? ⟨w1.heap.size + 1, 0, none⟩ = some (.int .i64 (depL G l))) := Lib.hid (fun w1 hb hlt ho => by
    have hb1 := (hb.alloc hb.size (.cells #[.slice (some ⟨w.heap.size, 0, none⟩) G.nodes.length G.nodes.length] 37))
    have hb2 := hb1.alloc hb1.size (.cells #[.int .i64 0] 3)
    have hq : DepQ w G l w1.heap.size (w1.heap.size + 1) 0 ((w1.alloc (.cells #[.slice (some ⟨w.heap.size, 0, none⟩) G.nodes.length G.nodes.length] 37)).alloc (.cells #[.int .i64 0] 3)) := by
      refine ⟨hb2, fun _ => ⟨⟨Nat.le_refl _, hlt, by omega⟩, by simp [Bits.row], ?_, ?_, ?_⟩⟩
      · rw [← hrow]; exact (ho.alloc _).alloc _
      · rw [alloc_old _ _ (Deep.blk_alloc_new _ _) (by simp)]
      · have := Deep.blk_alloc_new (w1.alloc (.cells #[.slice (some ⟨w.heap.size, 0, none⟩) G.nodes.length G.nodes.length] 37)) (.cells #[.int .i64 0] 3)
        rw [show (w1.alloc (.cells #[.slice (some ⟨w.heap.size, 0, none⟩) G.nodes.length G.nodes.length] 37)).heap.size = w1.heap.size + 1 by simp] at this
        exact this
    refine (through_depth w1.heap.size (w1.heap.size + 1) _ p.b G a n c l _ (dep_met hI hm hW hl _ _) hW hm (hs.step hb2) hl hq).mono (fun e w' ⟨he, hB, hD⟩ => ⟨he, hB, ?_⟩)
    have := (hD (Nat.le_refl _)).br
    simp [World.cell?, this]; rfl)
  obtain ⟨i0, hi, hz0, hz1, hz2⟩ := info_parts info_int
  have hz := Lib.hid (made_zero .i64 G.nodes.length)
  generalize G.nodes.length = N at *
  generalize depL G l = dd at *
  clear hI hW hs hl hrow
  go_enter Try.func24, Try.ntmps24
  go_wp2_with (first
    | (go_at_call 8; (with_reducible refine hno.out.mono ?_); rintro e w2 ⟨rfl, rfl⟩)
    | (at_make; refine wpList_make_full _ rfl _ _ 37 rfl w.heap.size 3 i0 (.int .i64 0) 1 Try.underlying37 hi hz0 hz1 .i64 .i64 N N N rfl rfl rfl rfl (by rw [hz2]; omega) (by unfold maxLen; omega) (Nat.le_refl _) ?_; intro w1 hown hg; have hB1 : Below w.heap.size w w1 := (Below.refl w.heap.size w).grown hg (Nat.le_refl _) (fun _ h => (by cases h)); rw [hz.out] at hown; have ht1 := Lib.hid (ht.out w1 hB1 (own_lt hown) hown); clear hown hg hB1)
    | (go_at_call 45; (with_reducible refine ht1.out.mono ?_); rintro e w2 ⟨rfl, hB, hc2⟩; have hB := Lib.hid hB))
  go_ret2
  exact ⟨rfl, hB.out⟩
end Go.Proofs.Ytmljpbbnllfgbaa
