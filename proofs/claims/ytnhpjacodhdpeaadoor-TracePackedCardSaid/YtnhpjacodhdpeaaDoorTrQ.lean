/-
  The law package's own: a table cut short.
-/
import Derived.Test.YtnhpjacodhdpeaaDoorTrP
import Derived.Deep.RegionHeld3
import Derived.Shelf.SlMaps.Clone
namespace Go.Proofs.YtnhpjacodhdpeaaDoor
open Go.RowKit Go.Maps Bits
set_option maxRecDepth 100000

def cutS (s : ByteArray) : ByteArray := s.extract 0 (min s.size 40)
def cutB (b : TB) : TB := ⟨cutS b.name, b.width⟩
def fewL (L : List TB) : List TB := (L.take 20).map cutB
def fewR (R : List (List Int)) : List (List Int) := (R.take 30).map (fun r => r.take 25)

set_option maxHeartbeats 1000000 in
theorem clone_row {w : World} {a : Option Addr} {n c : Nat} {l : List Int} (hs : Row .u64 w a n l) (hn : n ≤ 200000) :
    Calls Tryd.prog 41 #[.slice a n c] w fun e w' => ∃ v, e = .returned v ∧ w'.ownsRow w.heap.size 46 1 v n (u64s l) ∧ Below w.heap.size w w' := by
  obtain ⟨i0, hi, hz0, hz1, hz2⟩ := info_parts info_u64t
  have hl := hs.len
  by_cases hnil : n = 0 ∧ a = none
  · obtain ⟨rfl, rfl⟩ := hnil
    obtain rfl : l = [] := List.eq_nil_of_length_eq_zero hl
    have heq : ∀ W, (binOp .eql 37 (.slice none 0 c) (.slice none 0 0)).run Tryd.prog W = .ok (.bool true) W := fun W => Lib.run_eql_slice_nil W _ _ _ _ _ _ _ Tryd.underlying37
    clear hs
    go_enter Tryd.func41, Tryd.ntmps41
    go_wp2
    go_ret
    exact ⟨_, rfl, own_nil _ _ _, Below.refl _ _⟩
  · obtain ⟨ad, rfl⟩ : ∃ ad, a = some ad := by
      rcases hs.2.2 with h0 | ⟨b, off, h, -⟩
      · cases a with
        | none => exact absurd ⟨h0, rfl⟩ hnil
        | some ad => exact ⟨ad, rfl⟩
      · exact ⟨_, h⟩
    have hemp : Hid ((w.alloc (.cells #[] 46)).ownsRow w.heap.size 46 1 (.slice (some ⟨w.heap.size, 0, none⟩) 0 0) 0 []) := Lib.hid ⟨rfl, .inr ⟨w.heap.size, 0, #[], rfl, Nat.le_refl _, heap_alloc_new _ _, Nat.le_refl _, by decide, rfl, rfl⟩⟩
    have hb0 : Hid (Below w.heap.size w (w.alloc (.cells #[] 46))) := Lib.hid ((Below.refl _ _).alloc (Nat.le_refl _) _)
    have HN : Hid (∀ j u, (u64s l)[j]? = some u → (w.alloc (.cells #[] 46)).cell? (ad.add j) = some u) := Lib.hid (fun j u hv => by
      have hj : j < n := by have := (List.getElem?_eq_some_iff.1 hv).1; simp [u64s] at this; omega
      obtain ⟨b, off, h, hbl, hc⟩ := hs.at (by omega)
      cases h
      have hu : u = .int .u64 (l.getD j 0) := by simp [u64s, List.getD, show j < l.length by omega] at hv ⊢; exact hv.symm
      rw [hu, show (⟨b, off, none⟩ : Addr).add j = ⟨b, off + j, none⟩ by simp [Addr.add]]
      exact stepc hb0.out hbl (hc j hj))
    have H1 : Hid (∀ u ∈ u64s l, u.oneCell' = true) := Lib.hid (by intro u hu; simp [u64s] at hu; obtain ⟨z, -, rfl⟩ := hu; rfl)
    have HL : Hid ((u64s l).length = n * 1) := Lib.hid (by show _ = _; simp [u64s, hl])
    clear hs hnil
    have heq : ∀ W, (binOp .eql 37 (.slice (some ad) n c) (.slice none 0 0)).run Tryd.prog W = .ok (.bool false) W := fun W => Lib.run_eql_slice_nil W _ _ _ _ _ _ _ Tryd.underlying37
    go_enter Tryd.func41, Tryd.ntmps41
    go_wp2_with (at_builtin; refine wpList_append_own_at _ rfl _ _ 37 rfl w.heap.size 46 i0 (.int .u64 0) 1 8 Tryd.underlying37 hi hz0 hz1 hz2 rfl (by decide) (.slice (some ⟨w.heap.size, 0, none⟩) 0 0) 0 [] rfl hemp.out ad n c (u64s l) rfl HL.out HN.out H1.out (by unfold maxLen; omega) (by omega) (by simp) ?_; intro v' w3 hown' hgrow hnil hloc)
    obtain ⟨a3, c3, rfl⟩ := own_slice hown'
    go_wp2
    go_ret
    rw [List.nil_append, Nat.zero_add] at hown'
    refine ⟨.slice a3 n c3, by simp, hown', ?_⟩
    exact hb0.out.grown hgrow (by simp) (fun k hk => by simp [Value.ownBlock] at hk; omega)

/-- Rows that lie apart from each other. -/
def FarK (kv : List Value) : Prop := ∀ (i j : Nat) (x y : Value) (b : Nat), i < j → kv[i]? = some x → kv[j]? = some y → x.ownBlock = some b → y.ownBlock ≠ some b
theorem FarK.nil : FarK [] := fun i j x y b _ h => by simp at h
theorem FarK.push {kv : List Value} {x : Value} {Z : Nat} (h : FarK kv) (hz : ∀ b, x.ownBlock = some b → Z ≤ b) (hk : ∀ (i : Nat) (y : Value) (b : Nat), kv[i]? = some y → y.ownBlock = some b → b < Z) : FarK (kv ++ [x]) := by
  intro i j y z b hij h1 h2 h3 h4
  have hj : j < (kv ++ [x]).length := (List.getElem?_eq_some_iff.1 h2).1
  rw [List.length_append, List.length_singleton] at hj
  rw [List.getElem?_append_left (by omega)] at h1
  by_cases e : j < kv.length
  · rw [List.getElem?_append_left e] at h2
    exact h i j y z b hij h1 h2 h3 h4
  · rw [show j = kv.length by omega] at h2
    have hzx : x = z := by simpa using h2
    rw [← hzx] at h4
    have := hz b h4
    have := hk i y b h1 h3
    omega
structure TabF (w : World) (base : Nat) (va v2 : Value) (L : List TB) (G : List (List Int)) : Prop where
  bus : w.ownsRow base 69 2 va L.length (busCs L)
  rows : ∃ kv, w.ownsRow base 37 1 v2 G.length kv ∧ FarK kv ∧ ∀ i, i < G.length → ∃ x, kv[i]? = some x ∧ w.ownsRow base 46 1 x (G.getD i []).length (u64s (G.getD i []))
theorem TabF.tab {w : World} {base : Nat} {va v2 : Value} {L : List TB} {G : List (List Int)} (h : TabF w base va v2 L G) : TabV w base va v2 L G := by
  obtain ⟨kv, h1, -, h2⟩ := h.rows
  exact ⟨h.bus, kv, h1, h2⟩
/-- A table that is being cut short, beside what it is cut from. -/
structure FwS (w wk : World) (tb sb rb : Nat) (cs1 : Array Value) (v1 : Value) (K : List TB) (v2 : Value) (G : List (List Int)) (kv : List Value) : Prop where
  low : Below w.heap.size w wk
  tlo : w.heap.size ≤ tb
  ne1 : sb ≠ tb
  ne2 : rb ≠ tb
  src : wk.heap[sb]? = some (.cells cs1 25 (0, 0))
  res : wk.heap[rb]? = some (.cells #[.slice none 0 0, .slice none 0 0] 25 (0, 0))
  box : wk.heap[tb]? = some (.cells #[v1, v2] 25 (0, 0))
  bus : wk.ownsRow w.heap.size 69 2 v1 K.length (busCs K)
  own : wk.ownsRow w.heap.size 37 1 v2 G.length kv
  rows : ∀ i, i < G.length → ∃ x, kv[i]? = some x ∧ wk.ownsRow w.heap.size 46 1 x (G.getD i []).length (u64s (G.getD i []))
  far : FarK kv
section
variable {w wk w' w8 : World} {tb sb rb : Nat} {cs1 : Array Value} {v1 v2 v8 x : Value} {K : List TB} {G : List (List Int)} {kv : List Value} {g : List Int} {b : TB}
theorem FwS.sz (h : FwS w wk tb sb rb cs1 v1 K v2 G kv) : w.heap.size ≤ wk.heap.size := h.low.size
theorem FwS.step (h : FwS w wk tb sb rb cs1 v1 K v2 G kv) (hb : Below wk.heap.size wk w') : FwS w w' tb sb rb cs1 v1 K v2 G kv :=
  ⟨nextw h.low hb, h.tlo, h.ne1, h.ne2, (hb.block _ (Array.getElem?_eq_some_iff.1 h.src).1).trans h.src, (hb.block _ (Array.getElem?_eq_some_iff.1 h.res).1).trans h.res, (hb.block _ (Array.getElem?_eq_some_iff.1 h.box).1).trans h.box, own_below h.bus hb, own_below h.own hb,
    fun i hi => by obtain ⟨x, e1, e2⟩ := h.rows i hi; exact ⟨x, e1, own_below e2 hb⟩, h.far⟩
theorem FwS.lows (h : FwS w wk tb sb rb cs1 v1 K v2 G kv) (i : Nat) (y : Value) (b : Nat) (h1 : kv[i]? = some y) (h2 : y.ownBlock = some b) : b < wk.heap.size := by
  have hi : i < kv.length := (List.getElem?_eq_some_iff.1 h1).1
  have hk : kv.length = G.length := by have := h.own.1; omega
  obtain ⟨x, e1, e2⟩ := h.rows i (by omega)
  rw [h1] at e1
  cases e1
  exact (e2.lt b h2).2
theorem FwS.cells (h : FwS w wk tb sb rb cs1 v1 K v2 G kv) : wk.cell? ⟨tb, 0, none⟩ = some v1 ∧ wk.cell? ⟨tb, 1, none⟩ = some v2 := ⟨cell_of_heap h.box 0 _ rfl, cell_of_heap h.box 1 _ rfl⟩
/-- What is left as it was by an append to one of the rows, and a store into the box. -/
theorem FwS.mid (h : FwS w wk tb sb rb cs1 v1 K v2 G kv) {o : Obj} {T : Nat} {vq : Value} {s n : Nat} {xs : List Value} (hq : wk.ownsRow w.heap.size T s vq n xs) (hT : T ≠ 25) (h2 : (wk.alloc o).grownBy w8 vq.ownBlock) (c : Nat) (u : Value) :
    w8.heap[tb]? = some (.cells #[v1, v2] 25 (0, 0)) ∧ Below w.heap.size w (w8.setCell ⟨tb, c, none⟩ u)
    ∧ (w8.setCell ⟨tb, c, none⟩ u).heap[sb]? = some (.cells cs1 25 (0, 0)) ∧ (w8.setCell ⟨tb, c, none⟩ u).heap[rb]? = some (.cells #[.slice none 0 0, .slice none 0 0] 25 (0, 0))
    ∧ (∀ {T' size n : Nat} {v : Value} {xs : List Value}, T' ≠ T → T' ≠ 25 → wk.ownsRow w.heap.size T' size v n xs → (w8.setCell ⟨tb, c, none⟩ u).ownsRow w.heap.size T' size v n xs)
    ∧ ∀ {B T' size n : Nat} {v : Value} {xs : List Value}, T' ≠ 25 → w8.ownsRow B T' size v n xs → (w8.setCell ⟨tb, c, none⟩ u).ownsRow B T' size v n xs := by
  have ha : Below wk.heap.size wk (wk.alloc o) := (Below.refl _ _).alloc (Nat.le_refl _) _
  have hA := h.step ha
  have hqA := own_below hq ha
  have hk8 : Kept (fun k => vq.ownBlock = some k) (wk.alloc o) w8 := ⟨h2.os, h2.tape, h2.output, h2.size, fun k hk hn => h2.block k hk (fun e => hn e.symm)⟩
  have hty : ∀ k, vq.ownBlock = some k → ∃ cur T' z, (wk.alloc o).heap[k]? = some (.cells cur T' z) ∧ T' = T := fun k e => by
    obtain ⟨c, hc⟩ := own_type hqA e; exact ⟨c, _, _, hc, rfl⟩
  have far : ∀ {k : Nat} {cs : Array Value}, (wk.alloc o).heap[k]? = some (.cells cs 25 (0, 0)) → w8.heap[k]? = some (.cells cs 25 (0, 0)) := fun {k cs} hk => by
    rw [hk8.block k (Array.getElem?_eq_some_iff.1 hk).1 (fun e => by
      obtain ⟨c, T', z, h3, h4⟩ := hty k e
      rw [hk] at h3; simp at h3; rw [h4] at h3; exact absurd h3.2.1.symm hT)]
    exact hk
  have hbox8 := far hA.box
  have hks : Kept (fun k => k = tb) w8 (w8.setCell ⟨tb, c, none⟩ u) := ⟨rfl, rfl, rfl, by simp, fun k _ hn => Below.heap_setCell _ _ _ _ hn⟩
  have hlow : Below w.heap.size (wk.alloc o) w8 := (Below.refl _ _).grown h2 hA.sz (fun k hk => (hqA.lt k hk).1)
  have row2 : ∀ {B T' size n : Nat} {v : Value} {xs : List Value}, T' ≠ 25 → w8.ownsRow B T' size v n xs → (w8.setCell ⟨tb, c, none⟩ u).ownsRow B T' size v n xs := fun hT2 hr =>
    own_other hr hks (fun k e => by subst e; exact ⟨_, _, _, hbox8, fun e => hT2 e.symm⟩)
  refine ⟨hbox8, (hA.low.trans hlow).trans ((Below.refl w.heap.size w8).setCell (p := ⟨tb, c, none⟩) h.tlo u), (Below.heap_setCell _ _ _ _ h.ne1).trans (far hA.src), (Below.heap_setCell _ _ _ _ h.ne2).trans (far hA.res), fun h1 h3 hr => ?_, row2⟩
  exact row2 h3 (own_other (own_below hr ha) hk8 (fun k e => by obtain ⟨c, T', z, h3, h4⟩ := hty k e; exact ⟨c, T', z, h3, by rw [h4]; exact fun e => h1 e.symm⟩))
/-- A cell that was made behind the rows is left as it is. -/
theorem grown_keep {v1 : Value} {o : Obj} {N c : Nat} {u : Value} (h2 : (wk.alloc o).grownBy w8 v1.ownBlock) (hl : ∀ q, v1.ownBlock = some q → q < N) (hc : wk.cell? ⟨N, c, none⟩ = some u) : w8.cell? ⟨N, c, none⟩ = some u := by
  have hlt : N < wk.heap.size := by
    apply Classical.byContradiction
    intro hn
    rw [World.cell?, Array.getElem?_eq_none (show wk.heap.size ≤ N by omega)] at hc
    cases hc
  have ha := World.cell?_alloc_lt (w := wk) o (a := ⟨N, c, none⟩) hlt
  have hb := h2.block N (by simp; omega) (fun e => by have := hl N e.symm; omega)
  rw [← hc, ← ha, World.cell?, World.cell?, show w8.heap[(⟨N, c, none⟩ : Addr).block]? = _ from hb]
theorem FwS.pushB (h : FwS w wk tb sb rb cs1 v1 K v2 G kv) {o : Obj} (h1 : w8.ownsRow w.heap.size 69 2 v8 (K.length + 1) (busCs K ++ [.string b.name, .int .i64 b.width])) (h2 : (wk.alloc o).grownBy w8 v1.ownBlock) :
    w8.cell? ⟨tb, 0, none⟩ = some v1 ∧ w8.frozen? ⟨tb, 0, none⟩ = false ∧ FwS w (w8.setCell ⟨tb, 0, none⟩ v8) tb sb rb cs1 v8 (K ++ [b]) v2 G kv := by
  obtain ⟨b8, lo8, s8, r8, row, row2⟩ := h.mid h.bus (by decide) h2 0 v8
  refine ⟨cell_of_heap b8 0 _ rfl, frozen_of_row w8 tb 0 _ _ b8, lo8, h.tlo, h.ne1, h.ne2, s8, r8, ?_, ?_, row (by decide) (by decide) h.own, fun i hi => ?_, h.far⟩
  · rw [setCell_eq_setRow w8 tb 0 _ _ _ _ b8, setRow_heap w8 tb _ _ _ _ b8]; rfl
  · rw [busCs_push, List.length_append, List.length_singleton]; exact row2 (by decide) h1
  · obtain ⟨x, e1, e2⟩ := h.rows i hi; exact ⟨x, e1, row (by decide) (by decide) e2⟩
theorem FwS.pushR {Z : Nat} (h : FwS w wk tb sb rb cs1 v1 K v2 G kv) (hz : ∀ b, x.ownBlock = some b → Z ≤ b) (hk : ∀ (i : Nat) (y : Value) (b : Nat), kv[i]? = some y → y.ownBlock = some b → b < Z) (hx : wk.ownsRow w.heap.size 46 1 x g.length (u64s g)) {o : Obj} (h1 : w8.ownsRow w.heap.size 37 1 v8 (G.length + 1) (kv ++ [x])) (h2 : (wk.alloc o).grownBy w8 v2.ownBlock) :
    w8.cell? ⟨tb, 1, none⟩ = some v2 ∧ w8.frozen? ⟨tb, 1, none⟩ = false ∧ FwS w (w8.setCell ⟨tb, 1, none⟩ v8) tb sb rb cs1 v1 K v8 (G ++ [g]) (kv ++ [x]) := by
  obtain ⟨b8, lo8, s8, r8, row, row2⟩ := h.mid h.own (by decide) h2 1 v8
  refine ⟨cell_of_heap b8 1 _ rfl, frozen_of_row w8 tb 1 _ _ b8, lo8, h.tlo, h.ne1, h.ne2, s8, r8, ?_, row (by decide) (by decide) h.bus, ?_, fun i hi => ?_, h.far.push hz hk⟩
  · rw [setCell_eq_setRow w8 tb 1 _ _ _ _ b8, setRow_heap w8 tb _ _ _ _ b8]; rfl
  · rw [List.length_append, List.length_singleton]; exact row2 (by decide) h1
  · rw [List.length_append, List.length_singleton] at hi
    have hkl : kv.length = G.length := by have := h.own.1; omega
    by_cases e : i < G.length
    · obtain ⟨y, e1, e2⟩ := h.rows i e
      have eL : (G ++ [g]).getD i [] = G.getD i [] := by rw [List.getD_eq_getElem?_getD, List.getElem?_append_left e, ← List.getD_eq_getElem?_getD]
      rw [eL]
      exact ⟨y, by rw [List.getElem?_append_left (by omega)]; exact e1, row (by decide) (by decide) e2⟩
    · have ei : i = G.length := by omega
      subst ei
      have eL : (G ++ [g]).getD G.length [] = g := by simp [List.getD]
      rw [eL]
      exact ⟨x, by rw [← hkl]; simp, row (by decide) (by decide) hx⟩
end
theorem fewL_snoc (L : List TB) (j : Nat) (hj : j < L.length) : fewL (L.take (j + 1)) = if j < 20 then fewL (L.take j) ++ [cutB (L.getD j tb0)] else fewL (L.take j) := by
  unfold fewL
  rw [List.take_take, List.take_take]
  by_cases h : j < 20
  · rw [if_pos h, Nat.min_eq_right (by omega), Nat.min_eq_right (by omega), take_snoc L j tb0 hj]; simp
  · rw [if_neg h, Nat.min_eq_left (by omega), Nat.min_eq_left (by omega)]
theorem fewR_snoc (R : List (List Int)) (j : Nat) (hj : j < R.length) : fewR (R.take (j + 1)) = if j < 30 then fewR (R.take j) ++ [(R.getD j []).take 25] else fewR (R.take j) := by
  unfold fewR
  rw [List.take_take, List.take_take]
  by_cases h : j < 30
  · rw [if_pos h, Nat.min_eq_right (by omega), Nat.min_eq_right (by omega), take_snoc R j [] hj]; simp
  · rw [if_neg h, Nat.min_eq_left (by omega), Nat.min_eq_left (by omega)]

set_option maxHeartbeats 8000000 in
theorem few_any {w : World} {a a2 : Option Addr} {n m : Nat} {L : List TB} {R : List (List Int)} (h : BsR w a n L) (h2 : RRk .u64 w a2 m R) (c c2 : Nat) :
    Calls Tryd.prog 10 #[.agg #[.slice a n c, .slice a2 m c2]] w fun e w' => ∃ va v2, e = .returned (.agg #[va, v2]) ∧ TabF w' w.heap.size va v2 (fewL L) (fewR R) ∧ Below w.heap.size w w' := by
  obtain ⟨i0, hin, hz0, hz1, hz2⟩ := info_parts info_bust
  obtain ⟨k0, kin, kz0, kz1, kz2⟩ := info_parts info_rowt
  have hle := h.le
  have hle2 := h2.2.1
  have e1 := h.len
  have e2 := h2.1
  have HL := Lib.hid h
  have HR := Lib.hid h2
  clear h h2
  go_enter Tryd.func10, Tryd.ntmps10
  go_upto_region 2 with fail
  have hst : ∀ x, x = ((w.alloc (.cells #[.slice a n c, .slice a2 m c2] 25)).alloc (.cells #[.slice none 0 0, .slice none 0 0] 25)).alloc (.cells #[.slice none 0 0, .slice none 0 0] 25) → FwS w x (w.heap.size + 1 + 1) w.heap.size (w.heap.size + 1) #[.slice a n c, .slice a2 m c2] (.slice none 0 0) [] (.slice none 0 0) [] [] := by
    rintro x rfl
    refine ⟨((((Below.refl _ _).alloc (Nat.le_refl _) _).alloc (by simp) _).alloc (by simp; omega) _), by omega, by omega, by omega, heap_old (heap_old (heap_alloc_new w _) _) _, ?_, ?_, ⟨rfl, .inl ⟨rfl, rfl⟩⟩, ⟨rfl, .inl ⟨rfl, rfl⟩⟩, fun i hi => by simp at hi, FarK.nil⟩
    · have := heap_alloc_new (w.alloc (.cells #[.slice a n c, .slice a2 m c2] 25)) (.cells #[.slice none 0 0, .slice none 0 0] 25)
      exact heap_old (by simpa using this) _
    · have := heap_alloc_new ((w.alloc (.cells #[.slice a n c, .slice a2 m c2] 25)).alloc (.cells #[.slice none 0 0, .slice none 0 0] 25)) (.cells #[.slice none 0 0, .slice none 0 0] 25)
      simpa using this
  have hst := Lib.hid (hst _ rfl)
  have q0 := cell_of_heap hst.out.src 0 (.slice a n c) rfl
  generalize ((w.alloc (.cells #[.slice a n c, .slice a2 m c2] 25)).alloc (.cells #[.slice none 0 0, .slice none 0 0] 25)).alloc (.cells #[.slice none 0 0, .slice none 0 0] 25) = w3 at *
  go_wp2
  clear q0
  go_loopw [11] (fun i wr => ∃ (j : Nat) (v1 : Value), j ≤ n ∧ i = .int .i64 j ∧ Hid (FwS w wr (w.heap.size + 1 + 1) w.heap.size (w.heap.size + 1) #[.slice a n c, .slice a2 m c2] v1 (fewL (L.take j)) (.slice none 0 0) [] [])) (fun i _ => n - (intOf i).toNat)
  case atStart => exact ⟨0, _, by omega, rfl, hst⟩
  case round =>
    clear hst
    obtain ⟨j, v1, hj, rfl, hS⟩ := hrel
    by_cases hlt : j < n
    · obtain ⟨g, off, rfl, hg, hcell⟩ := HL.out.at (by omega)
      obtain ⟨b0, b1⟩ := hcell j hlt
      have c0 := stepc hS.out.low hg b0
      have c1 := stepc hS.out.low hg b1
      have hjn : (j : Int) < n := by omega
      have hsnoc := fewL_snoc L j (by omega)
      clear b0 b1 hcell
      generalize hbj : L.getD j tb0 = bj at *
      obtain ⟨nm, wd⟩ := bj
      simp only [] at c0 c1
      have hbox : ∀ x, x = wr.alloc (.cells #[.string nm, .int .i64 wd] 69) → Below wr.heap.size wr x ∧ x.cell? ⟨wr.heap.size, 0, none⟩ = some (.string nm) ∧ x.cell? ⟨wr.heap.size, 1, none⟩ = some (.int .i64 wd) ∧ wr.heap.size < x.heap.size := by
        rintro x rfl
        exact ⟨(Below.refl _ _).alloc (Nat.le_refl _) _, by simp [go_sem], by simp [go_sem], by simp⟩
      by_cases h20 : j < 20
      · rw [if_pos h20] at hsnoc
        have g20 : (j : Int) < 20 := by omega
        go_upto_region 6 with fail
        obtain ⟨hb5, d0, d1, hz5⟩ := hbox _ rfl
        have hS5 := Lib.hid (hS.out.step hb5)
        have hlo1 : Hid (∀ q, v1.ownBlock = some q → q < wr.heap.size) := Lib.hid (fun q e => (hS.out.bus.lt q e).2)
        have hszb := hS5.out.sz
        have hltr : w.heap.size + 1 + 1 < wr.heap.size := (Array.getElem?_eq_some_iff.1 hS.out.box).1
        clear hbox hS hb5
        generalize wr.alloc (.cells #[.string nm, .int .i64 wd] 69) = wb at *
        obtain ⟨f0, f1⟩ := hS5.out.cells
        obtain ⟨xa, xc, rfl⟩ := own_slice hS5.out.bus
        have hlen : (fewL (L.take j)).length ≤ 20 := by simp [fewL]; omega
        generalize fewL (L.take j) = K at *
        have hS6 : Hid (FwS w wb.drew (w.heap.size + 1 + 1) w.heap.size (w.heap.size + 1) #[.slice (some ⟨g, off, none⟩) n c, .slice a2 m c2] (.slice xa K.length xc) K (.slice none 0 0) [] []) := Lib.hid (hS5.out.step (Below.refl _ _).drew)
        have hsz6 := hS6.out.sz
        have hnet : w.heap.size + 1 + 1 ≠ wr.heap.size := Nat.ne_of_lt hltr
        have hltb : w.heap.size + 1 + 1 < wb.heap.size := (Array.getElem?_eq_some_iff.1 hS5.out.box).1
        have hneb : w.heap.size + 1 + 1 ≠ wb.heap.size := Nat.ne_of_lt hltb
        have hner : wr.heap.size ≠ wb.heap.size := Nat.ne_of_lt hz5
        have hcut : Hid (fewL (L.take (j + 1)) = K ++ [⟨cutS nm, wd⟩]) := Lib.hid hsnoc
        clear hsnoc hbj
        by_cases h40 : (40 : Int) < nm.size
        · have hcS : cutS nm = nm.extract 0 40 := by unfold cutS; rw [Nat.min_eq_right (by omega)]
          rw [hcS] at hcut
          have h40b : (40 : Int) ≤ nm.size := by omega
          have h40c : 40 < nm.size := by omega
          have h40d : 40 ≤ nm.size := by omega
          refine wp_region_held_drew (S := fun w' => w'.cell? ⟨wr.heap.size, 0, none⟩ = some (.string nm) ∧ w'.cell? ⟨wr.heap.size, 1, none⟩ = some (.int .i64 wd)) (by kernel_rfl) ?hsp (fun hHeld => ?restp)
          case hsp => exact ⟨d0, d1⟩
          refine wpAnyH_take (i := 0) (oi := _) (v := ?vp0) rfl (by kernel_rfl) (by kernel_rfl) (by kernel_rfl) (fun _ _ _ h => h) (Or.inl ⟨by rfl, ?hyp0⟩) (by assumption) ?rp0
          case hyp0 => (intro w9 hSw; (try dsimp only at hSw); go_simp; (try with_reducible rfl))
          try simp only [Act.put, List.setIfInBounds_toArray, List.set_cons_zero, List.set_cons_succ]
          refine wpAnyH_take (i := 2) (oi := _) (v := ?vp2) rfl (by kernel_rfl) (by kernel_rfl) (by kernel_rfl) (fun _ _ _ h => h) (Or.inl ⟨by rfl, ?hyp2⟩) (by assumption) ?rp2
          case hyp2 => (intro w9 hSw; (try dsimp only at hSw); go_simp; (try with_reducible rfl))
          try simp only [Act.put, List.setIfInBounds_toArray, List.set_cons_zero, List.set_cons_succ]
          refine wpAnyH_take (i := 3) (oi := _) (v := ?vp3) rfl (by kernel_rfl) (by kernel_rfl) (by kernel_rfl) (fun _ _ _ h => h) (Or.inl ⟨by rfl, ?hyp3⟩) (by assumption) ?rp3
          case hyp3 => (intro w9 hSw; (try dsimp only at hSw); go_simp; (try with_reducible rfl))
          try simp only [Act.put, List.setIfInBounds_toArray, List.set_cons_zero, List.set_cons_succ]
          refine wpAnyH_take (i := 4) (oi := _) (v := ?vp4) rfl (by kernel_rfl) (by kernel_rfl) (by kernel_rfl) (fun _ _ _ h => h) (Or.inl ⟨by rfl, ?hyp4⟩) (by assumption) ?rp4
          case hyp4 => (intro w9 hSw; (try dsimp only at hSw); go_simp; (try with_reducible rfl))
          try simp only [Act.put, List.setIfInBounds_toArray, List.set_cons_zero, List.set_cons_succ]
          refine wpAnyH_take (i := 5) (oi := _) (v := ?vp5) rfl (by kernel_rfl) (by kernel_rfl) (by kernel_rfl) (fun _ _ _ h => h) (Or.inl ⟨by rfl, ?hyp5⟩) (by assumption) ?rp5
          case hyp5 => (intro w9 hSw; (try dsimp only at hSw); go_simp; (try with_reducible rfl))
          try simp only [Act.put, List.setIfInBounds_toArray, List.set_cons_zero, List.set_cons_succ]
          refine wpAnyH_take (i := 6) (oi := _) (v := ?vp6) rfl (by kernel_rfl) (by kernel_rfl) (by kernel_rfl) (fun _ _ _ h => h) (Or.inl ⟨by rfl, ?hyp6⟩) (by assumption) ?rp6
          case hyp6 => (intro w9 hSw; (try dsimp only at hSw); go_simp; (try with_reducible rfl))
          try simp only [Act.put, List.setIfInBounds_toArray, List.set_cons_zero, List.set_cons_succ]
          refine wpAnyH_take (i := 7) (oi := _) (v := ?vp7) rfl (by kernel_rfl) (by kernel_rfl) (by kernel_rfl) (fun _ _ _ h => h) (Or.inl ⟨by rfl, ?hyp7⟩) (by assumption) ?rp7
          case hyp7 => (intro w9 hSw; (try dsimp only at hSw); go_simp; (try with_reducible rfl))
          try simp only [Act.put, List.setIfInBounds_toArray, List.set_cons_zero, List.set_cons_succ]
          refine wpAnyH_take (i := 8) (oi := _) (v := ?vp8) rfl (by kernel_rfl) (by kernel_rfl) (by kernel_rfl) (fun _ _ _ h => h) (Or.inl ⟨by rfl, ?hyp8⟩) (by assumption) ?rp8
          case hyp8 => (intro w9 hSw; (try dsimp only at hSw); go_simp; (try with_reducible rfl))
          try simp only [Act.put, List.setIfInBounds_toArray, List.set_cons_zero, List.set_cons_succ]
          refine wpAnyH_take (i := 9) (oi := _) (v := ?vp9) rfl (by kernel_rfl) (by kernel_rfl) (by kernel_rfl) (fun _ _ _ h => h) (Or.inl ⟨by rfl, ?hyp9⟩) (by assumption) ?rp9
          case hyp9 => (intro w9 hSw; (try dsimp only at hSw); go_simp; (try with_reducible rfl))
          try simp only [Act.put, List.setIfInBounds_toArray, List.set_cons_zero, List.set_cons_succ]
          refine wpAnyH_take (i := 10) (oi := _) (v := ?vp10) rfl (by kernel_rfl) (by kernel_rfl) (by kernel_rfl) (fun _ _ _ h => h) (Or.inl ⟨by rfl, ?hyp10⟩) (by assumption) ?rp10
          case hyp10 => (intro w9 hSw; (try dsimp only at hSw); go_simp; (try with_reducible rfl))
          try simp only [Act.put, List.setIfInBounds_toArray, List.set_cons_zero, List.set_cons_succ]
          refine wpAnyH_take (i := 11) (oi := _) (v := ?vp11) rfl (by kernel_rfl) (by kernel_rfl) (by kernel_rfl) (fun _ _ _ h => h) (Or.inl ⟨by rfl, ?hyp11⟩) (by assumption) ?rp11
          case hyp11 => (intro w9 hSw; (try dsimp only at hSw); go_simp; (try with_reducible rfl))
          try simp only [Act.put, List.setIfInBounds_toArray, List.set_cons_zero, List.set_cons_succ]
          refine wpAnyH_ready (rs := [1, 12]) (by kernel_rfl) (by simp) ?_
          refine AllReadyH.cons (o := { dst := some 19, op := Op.load 22 (Operand.tmp 18), type := 22, pos := "law.go:37", after := #[{ on := 0, ground := Ground.data }], guard := none }) rfl (fun KK hK => ?cp1a) ?mp1a
          case cp1a =>
            go_simp
            refine hK.out _ _ ?sp1a (fun hHeld => ?rp1az)
            case sp1a => ((try dsimp only); exact ⟨d0, d1⟩)
            clear hK KK
            try simp only [Act.put, List.setIfInBounds_toArray, List.set_cons_zero, List.set_cons_succ]
            refine wpAnyH_ready (rs := [12]) (by kernel_rfl) (by simp) ?_
            refine AllReadyH.cons (o := { dst := some 30, op := Op.buildSlice 22 1 #[(0, Operand.tmp 29)], type := 22, pos := "law.go:37", after := #[{ on := 11, ground := Ground.data }], guard := none }) rfl (fun KK hK => ?cp12a) ?mp12a
            case cp12a =>
              go_simp
              refine hK.out _ _ ?sp12a (fun hHeld => ?rp12az)
              case sp12a => ((try dsimp only); go_keep)
              clear hK KK
              try simp only [Act.put, List.setIfInBounds_toArray, List.set_cons_zero, List.set_cons_succ]
              refine wpAnyH_ready (rs := [13]) (by kernel_rfl) (by simp) ?_
              refine AllReadyH.cons (o := { dst := some 31, op := Op.call { callee := Callee.builtin Builtin.append, args := #[Operand.tmp 19, Operand.tmp 30], argTypes := #[22, 22] }, type := 22, pos := "law.go:37", after := #[{ on := 1, ground := Ground.data }, { on := 12, ground := Ground.data }], guard := none }) rfl (fun KK hK => ?cp13a) ?mp13a
              case cp13a =>
                refine step_append_lies _ (by rfl) (.tmp 19) (.tmp 30) _ (by rfl) w.heap.size 69 i0 (.agg #[.string ByteArray.empty, .int .i64 0]) 2 24 Tryd.underlying22 hin hz0 hz1 hz2 rfl (by decide) (.slice xa K.length xc) K.length (busCs K) (by rfl) (by exact hS6.out.bus.alloc _) _ 1 1 [.string (nm.extract 0 40), .int .i64 wd] (by rfl) rfl (by exact news_list _ _ _) (by intro u hu; simp at hu; rcases hu with rfl | rfl <;> rfl) (by decide) (by unfold maxLen; omega) (by omega) (by simp; omega) _ rfl ?_; intro g8 cap8 w8 hown8 hgrow8 hat8 hlt8; obtain ⟨e0, e1, e2⟩ := hS6.out.pushB (b := ⟨nm.extract 0 40, wd⟩) hown8 hgrow8; have k8 := grown_keep (wk := wb.drew) hgrow8 hlo1.out d0; have k9 := grown_keep (wk := wb.drew) hgrow8 hlo1.out d1
                refine hK.out _ _ ?sp13a (fun hHeld => ?rp13az)
                case sp13a => ((try dsimp only); exact ⟨k8, k9⟩)
                clear hK KK
                try simp only [Act.put, List.setIfInBounds_toArray, List.set_cons_zero, List.set_cons_succ]
                refine wpAnyH_take (i := 14) (oi := _) (v := ?vp14a) rfl (by kernel_rfl) (by kernel_rfl) (by kernel_rfl) (fun _ _ _ h => h) (Or.inl ⟨by rfl, ?hyp14a⟩) (by assumption) ?rp14a
                case hyp14a => (intro w9 hSw; (try dsimp only at hSw); go_simp; (try with_reducible rfl))
                try simp only [Act.put, List.setIfInBounds_toArray, List.set_cons_zero, List.set_cons_succ]
                refine wpAnyH_ready (rs := [15]) (by kernel_rfl) (by simp) ?_
                refine AllReadyH.cons (o := { dst := none, op := Op.store 22 (Operand.tmp 32) (Operand.tmp 31), type := 0, pos := "law.go:37", after := #[{ on := 14, ground := Ground.data }, { on := 13, ground := Ground.data }, { on := 13, ground := Ground.chain }, { on := 0, ground := Ground.phase }, { on := 1, ground := Ground.phase }, { on := 2, ground := Ground.phase }, { on := 3, ground := Ground.phase }, { on := 4, ground := Ground.phase }, { on := 5, ground := Ground.phase }, { on := 6, ground := Ground.phase }, { on := 7, ground := Ground.phase }, { on := 8, ground := Ground.phase }, { on := 9, ground := Ground.phase }, { on := 10, ground := Ground.phase }, { on := 11, ground := Ground.phase }, { on := 12, ground := Ground.phase }, { on := 13, ground := Ground.phase }], guard := none }) rfl (fun KK hK => ?cp15a) ?mp15a
                case cp15a =>
                  go_simp
                  refine hK.out _ _ ?sp15a (fun hHeld => ?rp15az)
                  case sp15a => ((try dsimp only); exact ⟨(World.cell?_setCell_far _ _ _ _ hnet).trans k8, (World.cell?_setCell_far _ _ _ _ hnet).trans k9⟩)
                  clear hK KK
                  try simp only [Act.put, List.setIfInBounds_toArray, List.set_cons_zero, List.set_cons_succ]
                  refine wpAnyH_done (by kernel_rfl) ?_ _
                  go_wp2
                  exact ⟨⟨j + 1, _, by omega, by go_num, Lib.hid (by rw [hcut.out]; exact e2)⟩, by simp [intOf]; omega⟩
                case mp15a => exact AllReadyH.nil
              case mp13a => exact AllReadyH.nil
            case mp12a => exact AllReadyH.nil
          case mp1a =>
            refine AllReadyH.cons (o := { dst := some 30, op := Op.buildSlice 22 1 #[(0, Operand.tmp 29)], type := 22, pos := "law.go:37", after := #[{ on := 11, ground := Ground.data }], guard := none }) rfl (fun KK hK => ?cp12b) ?mp12b
            case cp12b =>
              go_simp
              refine hK.out _ _ ?sp12b (fun hHeld => ?rp12bz)
              case sp12b => ((try dsimp only); go_keep)
              clear hK KK
              try simp only [Act.put, List.setIfInBounds_toArray, List.set_cons_zero, List.set_cons_succ]
              refine wpAnyH_ready (rs := [1]) (by kernel_rfl) (by simp) ?_
              refine AllReadyH.cons (o := { dst := some 19, op := Op.load 22 (Operand.tmp 18), type := 22, pos := "law.go:37", after := #[{ on := 0, ground := Ground.data }], guard := none }) rfl (fun KK hK => ?cp1b) ?mp1b
              case cp1b =>
                go_simp
                refine hK.out _ _ ?sp1b (fun hHeld => ?rp1bz)
                case sp1b => ((try dsimp only); assumption)
                clear hK KK
                try simp only [Act.put, List.setIfInBounds_toArray, List.set_cons_zero, List.set_cons_succ]
                refine wpAnyH_ready (rs := [13]) (by kernel_rfl) (by simp) ?_
                refine AllReadyH.cons (o := { dst := some 31, op := Op.call { callee := Callee.builtin Builtin.append, args := #[Operand.tmp 19, Operand.tmp 30], argTypes := #[22, 22] }, type := 22, pos := "law.go:37", after := #[{ on := 1, ground := Ground.data }, { on := 12, ground := Ground.data }], guard := none }) rfl (fun KK hK => ?cp13b) ?mp13b
                case cp13b =>
                  refine step_append_lies _ (by rfl) (.tmp 19) (.tmp 30) _ (by rfl) w.heap.size 69 i0 (.agg #[.string ByteArray.empty, .int .i64 0]) 2 24 Tryd.underlying22 hin hz0 hz1 hz2 rfl (by decide) (.slice xa K.length xc) K.length (busCs K) (by rfl) (by exact hS6.out.bus.alloc _) _ 1 1 [.string (nm.extract 0 40), .int .i64 wd] (by rfl) rfl (by exact news_list _ _ _) (by intro u hu; simp at hu; rcases hu with rfl | rfl <;> rfl) (by decide) (by unfold maxLen; omega) (by omega) (by simp; omega) _ rfl ?_; intro g8 cap8 w8 hown8 hgrow8 hat8 hlt8; obtain ⟨e0, e1, e2⟩ := hS6.out.pushB (b := ⟨nm.extract 0 40, wd⟩) hown8 hgrow8; have k8 := grown_keep (wk := wb.drew) hgrow8 hlo1.out d0; have k9 := grown_keep (wk := wb.drew) hgrow8 hlo1.out d1
                  refine hK.out _ _ ?sp13b (fun hHeld => ?rp13bz)
                  case sp13b => ((try dsimp only); exact ⟨k8, k9⟩)
                  clear hK KK
                  try simp only [Act.put, List.setIfInBounds_toArray, List.set_cons_zero, List.set_cons_succ]
                  refine wpAnyH_take (i := 14) (oi := _) (v := ?vp14b) rfl (by kernel_rfl) (by kernel_rfl) (by kernel_rfl) (fun _ _ _ h => h) (Or.inl ⟨by rfl, ?hyp14b⟩) (by assumption) ?rp14b
                  case hyp14b => (intro w9 hSw; (try dsimp only at hSw); go_simp; (try with_reducible rfl))
                  try simp only [Act.put, List.setIfInBounds_toArray, List.set_cons_zero, List.set_cons_succ]
                  refine wpAnyH_ready (rs := [15]) (by kernel_rfl) (by simp) ?_
                  refine AllReadyH.cons (o := { dst := none, op := Op.store 22 (Operand.tmp 32) (Operand.tmp 31), type := 0, pos := "law.go:37", after := #[{ on := 14, ground := Ground.data }, { on := 13, ground := Ground.data }, { on := 13, ground := Ground.chain }, { on := 0, ground := Ground.phase }, { on := 1, ground := Ground.phase }, { on := 2, ground := Ground.phase }, { on := 3, ground := Ground.phase }, { on := 4, ground := Ground.phase }, { on := 5, ground := Ground.phase }, { on := 6, ground := Ground.phase }, { on := 7, ground := Ground.phase }, { on := 8, ground := Ground.phase }, { on := 9, ground := Ground.phase }, { on := 10, ground := Ground.phase }, { on := 11, ground := Ground.phase }, { on := 12, ground := Ground.phase }, { on := 13, ground := Ground.phase }], guard := none }) rfl (fun KK hK => ?cp15b) ?mp15b
                  case cp15b =>
                    go_simp
                    refine hK.out _ _ ?sp15b (fun hHeld => ?rp15bz)
                    case sp15b => ((try dsimp only); exact ⟨(World.cell?_setCell_far _ _ _ _ hnet).trans k8, (World.cell?_setCell_far _ _ _ _ hnet).trans k9⟩)
                    clear hK KK
                    try simp only [Act.put, List.setIfInBounds_toArray, List.set_cons_zero, List.set_cons_succ]
                    refine wpAnyH_done (by kernel_rfl) ?_ _
                    go_wp2
                    exact ⟨⟨j + 1, _, by omega, by go_num, Lib.hid (by rw [hcut.out]; exact e2)⟩, by simp [intOf]; omega⟩
                  case mp15b => exact AllReadyH.nil
                case mp13b => exact AllReadyH.nil
              case mp1b => exact AllReadyH.nil
            case mp12b => exact AllReadyH.nil
        · have hcS : cutS nm = nm := by unfold cutS; rw [Nat.min_eq_left (by omega)]; simp
          rw [hcS] at hcut
          have h40c : ¬ 40 < nm.size := by omega
          have h0 : (0 : Int) ≤ nm.size := by omega
          refine wp_region_held_drew (S := fun w' => w'.cell? ⟨wr.heap.size, 0, none⟩ = some (.string nm) ∧ w'.cell? ⟨wr.heap.size, 1, none⟩ = some (.int .i64 wd)) (by kernel_rfl) ?hsq (fun hHeld => ?restq)
          case hsq => exact ⟨d0, d1⟩
          refine wpAnyH_take (i := 0) (oi := _) (v := ?vq0) rfl (by kernel_rfl) (by kernel_rfl) (by kernel_rfl) (fun _ _ _ h => h) (Or.inl ⟨by rfl, ?hyq0⟩) (by assumption) ?rq0
          case hyq0 => (intro w9 hSw; (try dsimp only at hSw); go_simp; (try with_reducible rfl))
          try simp only [Act.put, List.setIfInBounds_toArray, List.set_cons_zero, List.set_cons_succ]
          refine wpAnyH_take (i := 2) (oi := _) (v := ?vq2) rfl (by kernel_rfl) (by kernel_rfl) (by kernel_rfl) (fun _ _ _ h => h) (Or.inl ⟨by rfl, ?hyq2⟩) (by assumption) ?rq2
          case hyq2 => (intro w9 hSw; (try dsimp only at hSw); go_simp; (try with_reducible rfl))
          try simp only [Act.put, List.setIfInBounds_toArray, List.set_cons_zero, List.set_cons_succ]
          refine wpAnyH_take (i := 3) (oi := _) (v := ?vq3) rfl (by kernel_rfl) (by kernel_rfl) (by kernel_rfl) (fun _ _ _ h => h) (Or.inl ⟨by rfl, ?hyq3⟩) (by assumption) ?rq3
          case hyq3 => (intro w9 hSw; (try dsimp only at hSw); go_simp; (try with_reducible rfl))
          try simp only [Act.put, List.setIfInBounds_toArray, List.set_cons_zero, List.set_cons_succ]
          refine wpAnyH_take (i := 4) (oi := _) (v := ?vq4) rfl (by kernel_rfl) (by kernel_rfl) (by kernel_rfl) (fun _ _ _ h => h) (Or.inl ⟨by rfl, ?hyq4⟩) (by assumption) ?rq4
          case hyq4 => (intro w9 hSw; (try dsimp only at hSw); go_simp; (try with_reducible rfl))
          try simp only [Act.put, List.setIfInBounds_toArray, List.set_cons_zero, List.set_cons_succ]
          refine wpAnyH_take (i := 5) (oi := _) (v := ?vq5) rfl (by kernel_rfl) (by kernel_rfl) (by kernel_rfl) (fun _ _ _ h => h) (Or.inl ⟨by rfl, ?hyq5⟩) (by assumption) ?rq5
          case hyq5 => (intro w9 hSw; (try dsimp only at hSw); go_simp; (try with_reducible rfl))
          try simp only [Act.put, List.setIfInBounds_toArray, List.set_cons_zero, List.set_cons_succ]
          refine wpAnyH_take (i := 6) (oi := _) (v := ?vq6) rfl (by kernel_rfl) (by kernel_rfl) (by kernel_rfl) (fun _ _ _ h => h) (Or.inl ⟨by rfl, ?hyq6⟩) (by assumption) ?rq6
          case hyq6 => (intro w9 hSw; (try dsimp only at hSw); go_simp; (try with_reducible rfl))
          try simp only [Act.put, List.setIfInBounds_toArray, List.set_cons_zero, List.set_cons_succ]
          refine wpAnyH_take (i := 7) (oi := _) (v := ?vq7) rfl (by kernel_rfl) (by kernel_rfl) (by kernel_rfl) (fun _ _ _ h => h) (Or.inl ⟨by rfl, ?hyq7⟩) (by assumption) ?rq7
          case hyq7 => (intro w9 hSw; (try dsimp only at hSw); go_simp; (try with_reducible rfl))
          try simp only [Act.put, List.setIfInBounds_toArray, List.set_cons_zero, List.set_cons_succ]
          refine wpAnyH_take (i := 8) (oi := _) (v := ?vq8) rfl (by kernel_rfl) (by kernel_rfl) (by kernel_rfl) (fun _ _ _ h => h) (Or.inl ⟨by rfl, ?hyq8⟩) (by assumption) ?rq8
          case hyq8 => (intro w9 hSw; (try dsimp only at hSw); go_simp; (try with_reducible rfl))
          try simp only [Act.put, List.setIfInBounds_toArray, List.set_cons_zero, List.set_cons_succ]
          refine wpAnyH_take (i := 9) (oi := _) (v := ?vq9) rfl (by kernel_rfl) (by kernel_rfl) (by kernel_rfl) (fun _ _ _ h => h) (Or.inl ⟨by rfl, ?hyq9⟩) (by assumption) ?rq9
          case hyq9 => (intro w9 hSw; (try dsimp only at hSw); go_simp; (try with_reducible rfl))
          try simp only [Act.put, List.setIfInBounds_toArray, List.set_cons_zero, List.set_cons_succ]
          refine wpAnyH_take (i := 10) (oi := _) (v := ?vq10) rfl (by kernel_rfl) (by kernel_rfl) (by kernel_rfl) (fun _ _ _ h => h) (Or.inl ⟨by rfl, ?hyq10⟩) (by assumption) ?rq10
          case hyq10 => (intro w9 hSw; (try dsimp only at hSw); go_simp; (try with_reducible rfl))
          try simp only [Act.put, List.setIfInBounds_toArray, List.set_cons_zero, List.set_cons_succ]
          refine wpAnyH_take (i := 11) (oi := _) (v := ?vq11) rfl (by kernel_rfl) (by kernel_rfl) (by kernel_rfl) (fun _ _ _ h => h) (Or.inl ⟨by rfl, ?hyq11⟩) (by assumption) ?rq11
          case hyq11 => (intro w9 hSw; (try dsimp only at hSw); go_simp; (try with_reducible rfl))
          try simp only [Act.put, List.setIfInBounds_toArray, List.set_cons_zero, List.set_cons_succ]
          refine wpAnyH_ready (rs := [1, 12]) (by kernel_rfl) (by simp) ?_
          refine AllReadyH.cons (o := { dst := some 19, op := Op.load 22 (Operand.tmp 18), type := 22, pos := "law.go:37", after := #[{ on := 0, ground := Ground.data }], guard := none }) rfl (fun KK hK => ?cq1a) ?mq1a
          case cq1a =>
            go_simp
            refine hK.out _ _ ?sq1a (fun hHeld => ?rq1az)
            case sq1a => ((try dsimp only); exact ⟨d0, d1⟩)
            clear hK KK
            try simp only [Act.put, List.setIfInBounds_toArray, List.set_cons_zero, List.set_cons_succ]
            refine wpAnyH_ready (rs := [12]) (by kernel_rfl) (by simp) ?_
            refine AllReadyH.cons (o := { dst := some 30, op := Op.buildSlice 22 1 #[(0, Operand.tmp 29)], type := 22, pos := "law.go:37", after := #[{ on := 11, ground := Ground.data }], guard := none }) rfl (fun KK hK => ?cq12a) ?mq12a
            case cq12a =>
              go_simp
              refine hK.out _ _ ?sq12a (fun hHeld => ?rq12az)
              case sq12a => ((try dsimp only); go_keep)
              clear hK KK
              try simp only [Act.put, List.setIfInBounds_toArray, List.set_cons_zero, List.set_cons_succ]
              refine wpAnyH_ready (rs := [13]) (by kernel_rfl) (by simp) ?_
              refine AllReadyH.cons (o := { dst := some 31, op := Op.call { callee := Callee.builtin Builtin.append, args := #[Operand.tmp 19, Operand.tmp 30], argTypes := #[22, 22] }, type := 22, pos := "law.go:37", after := #[{ on := 1, ground := Ground.data }, { on := 12, ground := Ground.data }], guard := none }) rfl (fun KK hK => ?cq13a) ?mq13a
              case cq13a =>
                refine step_append_lies _ (by rfl) (.tmp 19) (.tmp 30) _ (by rfl) w.heap.size 69 i0 (.agg #[.string ByteArray.empty, .int .i64 0]) 2 24 Tryd.underlying22 hin hz0 hz1 hz2 rfl (by decide) (.slice xa K.length xc) K.length (busCs K) (by rfl) (by exact hS6.out.bus.alloc _) _ 1 1 [.string nm, .int .i64 wd] (by rfl) rfl (by exact news_list _ _ _) (by intro u hu; simp at hu; rcases hu with rfl | rfl <;> rfl) (by decide) (by unfold maxLen; omega) (by omega) (by simp; omega) _ rfl ?_; intro g8 cap8 w8 hown8 hgrow8 hat8 hlt8; obtain ⟨e0, e1, e2⟩ := hS6.out.pushB (b := ⟨nm, wd⟩) hown8 hgrow8; have k8 := grown_keep (wk := wb.drew) hgrow8 hlo1.out d0; have k9 := grown_keep (wk := wb.drew) hgrow8 hlo1.out d1
                refine hK.out _ _ ?sq13a (fun hHeld => ?rq13az)
                case sq13a => ((try dsimp only); exact ⟨k8, k9⟩)
                clear hK KK
                try simp only [Act.put, List.setIfInBounds_toArray, List.set_cons_zero, List.set_cons_succ]
                refine wpAnyH_take (i := 14) (oi := _) (v := ?vq14a) rfl (by kernel_rfl) (by kernel_rfl) (by kernel_rfl) (fun _ _ _ h => h) (Or.inl ⟨by rfl, ?hyq14a⟩) (by assumption) ?rq14a
                case hyq14a => (intro w9 hSw; (try dsimp only at hSw); go_simp; (try with_reducible rfl))
                try simp only [Act.put, List.setIfInBounds_toArray, List.set_cons_zero, List.set_cons_succ]
                refine wpAnyH_ready (rs := [15]) (by kernel_rfl) (by simp) ?_
                refine AllReadyH.cons (o := { dst := none, op := Op.store 22 (Operand.tmp 32) (Operand.tmp 31), type := 0, pos := "law.go:37", after := #[{ on := 14, ground := Ground.data }, { on := 13, ground := Ground.data }, { on := 13, ground := Ground.chain }, { on := 0, ground := Ground.phase }, { on := 1, ground := Ground.phase }, { on := 2, ground := Ground.phase }, { on := 3, ground := Ground.phase }, { on := 4, ground := Ground.phase }, { on := 5, ground := Ground.phase }, { on := 6, ground := Ground.phase }, { on := 7, ground := Ground.phase }, { on := 8, ground := Ground.phase }, { on := 9, ground := Ground.phase }, { on := 10, ground := Ground.phase }, { on := 11, ground := Ground.phase }, { on := 12, ground := Ground.phase }, { on := 13, ground := Ground.phase }], guard := none }) rfl (fun KK hK => ?cq15a) ?mq15a
                case cq15a =>
                  go_simp
                  refine hK.out _ _ ?sq15a (fun hHeld => ?rq15az)
                  case sq15a => ((try dsimp only); exact ⟨(World.cell?_setCell_far _ _ _ _ hnet).trans k8, (World.cell?_setCell_far _ _ _ _ hnet).trans k9⟩)
                  clear hK KK
                  try simp only [Act.put, List.setIfInBounds_toArray, List.set_cons_zero, List.set_cons_succ]
                  refine wpAnyH_done (by kernel_rfl) ?_ _
                  go_wp2
                  exact ⟨⟨j + 1, _, by omega, by go_num, Lib.hid (by rw [hcut.out]; exact e2)⟩, by simp [intOf]; omega⟩
                case mq15a => exact AllReadyH.nil
              case mq13a => exact AllReadyH.nil
            case mq12a => exact AllReadyH.nil
          case mq1a =>
            refine AllReadyH.cons (o := { dst := some 30, op := Op.buildSlice 22 1 #[(0, Operand.tmp 29)], type := 22, pos := "law.go:37", after := #[{ on := 11, ground := Ground.data }], guard := none }) rfl (fun KK hK => ?cq12b) ?mq12b
            case cq12b =>
              go_simp
              refine hK.out _ _ ?sq12b (fun hHeld => ?rq12bz)
              case sq12b => ((try dsimp only); go_keep)
              clear hK KK
              try simp only [Act.put, List.setIfInBounds_toArray, List.set_cons_zero, List.set_cons_succ]
              refine wpAnyH_ready (rs := [1]) (by kernel_rfl) (by simp) ?_
              refine AllReadyH.cons (o := { dst := some 19, op := Op.load 22 (Operand.tmp 18), type := 22, pos := "law.go:37", after := #[{ on := 0, ground := Ground.data }], guard := none }) rfl (fun KK hK => ?cq1b) ?mq1b
              case cq1b =>
                go_simp
                refine hK.out _ _ ?sq1b (fun hHeld => ?rq1bz)
                case sq1b => ((try dsimp only); assumption)
                clear hK KK
                try simp only [Act.put, List.setIfInBounds_toArray, List.set_cons_zero, List.set_cons_succ]
                refine wpAnyH_ready (rs := [13]) (by kernel_rfl) (by simp) ?_
                refine AllReadyH.cons (o := { dst := some 31, op := Op.call { callee := Callee.builtin Builtin.append, args := #[Operand.tmp 19, Operand.tmp 30], argTypes := #[22, 22] }, type := 22, pos := "law.go:37", after := #[{ on := 1, ground := Ground.data }, { on := 12, ground := Ground.data }], guard := none }) rfl (fun KK hK => ?cq13b) ?mq13b
                case cq13b =>
                  refine step_append_lies _ (by rfl) (.tmp 19) (.tmp 30) _ (by rfl) w.heap.size 69 i0 (.agg #[.string ByteArray.empty, .int .i64 0]) 2 24 Tryd.underlying22 hin hz0 hz1 hz2 rfl (by decide) (.slice xa K.length xc) K.length (busCs K) (by rfl) (by exact hS6.out.bus.alloc _) _ 1 1 [.string nm, .int .i64 wd] (by rfl) rfl (by exact news_list _ _ _) (by intro u hu; simp at hu; rcases hu with rfl | rfl <;> rfl) (by decide) (by unfold maxLen; omega) (by omega) (by simp; omega) _ rfl ?_; intro g8 cap8 w8 hown8 hgrow8 hat8 hlt8; obtain ⟨e0, e1, e2⟩ := hS6.out.pushB (b := ⟨nm, wd⟩) hown8 hgrow8; have k8 := grown_keep (wk := wb.drew) hgrow8 hlo1.out d0; have k9 := grown_keep (wk := wb.drew) hgrow8 hlo1.out d1
                  refine hK.out _ _ ?sq13b (fun hHeld => ?rq13bz)
                  case sq13b => ((try dsimp only); exact ⟨k8, k9⟩)
                  clear hK KK
                  try simp only [Act.put, List.setIfInBounds_toArray, List.set_cons_zero, List.set_cons_succ]
                  refine wpAnyH_take (i := 14) (oi := _) (v := ?vq14b) rfl (by kernel_rfl) (by kernel_rfl) (by kernel_rfl) (fun _ _ _ h => h) (Or.inl ⟨by rfl, ?hyq14b⟩) (by assumption) ?rq14b
                  case hyq14b => (intro w9 hSw; (try dsimp only at hSw); go_simp; (try with_reducible rfl))
                  try simp only [Act.put, List.setIfInBounds_toArray, List.set_cons_zero, List.set_cons_succ]
                  refine wpAnyH_ready (rs := [15]) (by kernel_rfl) (by simp) ?_
                  refine AllReadyH.cons (o := { dst := none, op := Op.store 22 (Operand.tmp 32) (Operand.tmp 31), type := 0, pos := "law.go:37", after := #[{ on := 14, ground := Ground.data }, { on := 13, ground := Ground.data }, { on := 13, ground := Ground.chain }, { on := 0, ground := Ground.phase }, { on := 1, ground := Ground.phase }, { on := 2, ground := Ground.phase }, { on := 3, ground := Ground.phase }, { on := 4, ground := Ground.phase }, { on := 5, ground := Ground.phase }, { on := 6, ground := Ground.phase }, { on := 7, ground := Ground.phase }, { on := 8, ground := Ground.phase }, { on := 9, ground := Ground.phase }, { on := 10, ground := Ground.phase }, { on := 11, ground := Ground.phase }, { on := 12, ground := Ground.phase }, { on := 13, ground := Ground.phase }], guard := none }) rfl (fun KK hK => ?cq15b) ?mq15b
                  case cq15b =>
                    go_simp
                    refine hK.out _ _ ?sq15b (fun hHeld => ?rq15bz)
                    case sq15b => ((try dsimp only); exact ⟨(World.cell?_setCell_far _ _ _ _ hnet).trans k8, (World.cell?_setCell_far _ _ _ _ hnet).trans k9⟩)
                    clear hK KK
                    try simp only [Act.put, List.setIfInBounds_toArray, List.set_cons_zero, List.set_cons_succ]
                    refine wpAnyH_done (by kernel_rfl) ?_ _
                    go_wp2
                    exact ⟨⟨j + 1, _, by omega, by go_num, Lib.hid (by rw [hcut.out]; exact e2)⟩, by simp [intOf]; omega⟩
                  case mq15b => exact AllReadyH.nil
                case mq13b => exact AllReadyH.nil
              case mq1b => exact AllReadyH.nil
            case mq12b => exact AllReadyH.nil
      · rw [if_neg h20] at hsnoc
        have g20 : ¬ (j : Int) < 20 := by omega
        go_upto_region 5 with fail
        obtain ⟨hb5, d0, d1, hz5⟩ := hbox _ rfl
        have hS5 := Lib.hid (hS.out.step hb5)
        clear hbox hS hb5
        generalize wr.alloc (.cells #[.string nm, .int .i64 wd] 69) = wb at *
        have hcut : Hid (fewL (L.take (j + 1)) = fewL (L.take j)) := Lib.hid hsnoc
        clear hsnoc
        go_wp2
        exact ⟨⟨j + 1, v1, by omega, by go_num, Lib.hid (by rw [hcut.out]; exact hS5.out)⟩, by simp [intOf]; omega⟩
    · obtain rfl : j = n := by omega
      have eL : fewL (L.take j) = fewL L := by rw [List.take_of_length_le (by omega)]
      rw [eL] at hS
      have hnn : ¬ (j : Int) < (j : Int) := by omega
      have q1 := cell_of_heap hS.out.src 1 (.slice a2 m c2) rfl
      obtain ⟨xa, xc, rfl⟩ := own_slice hS.out.bus
      generalize hKe0 : fewL L = K at *
      have hKe := Lib.hid hKe0
      clear hKe0
      go_upto_region 9 with fail
      clear q1 eL
      go_loopw [37] (fun i wr2 => ∃ (j2 : Nat) (v2 : Value) (kv : List Value), j2 ≤ m ∧ i = .int .i64 j2 ∧ Hid (FwS w wr2 (w.heap.size + 1 + 1) w.heap.size (w.heap.size + 1) #[.slice a j c, .slice a2 m c2] (.slice xa K.length xc) K v2 (fewR (R.take j2)) kv)) (fun i _ => m - (intOf i).toNat)
      case atStart => exact ⟨0, _, [], by omega, rfl, hS⟩
      case round =>
        clear hS
        obtain ⟨j2, v2, kv, hj2, rfl, hS⟩ := hrel
        obtain ⟨ya, yc, rfl⟩ := own_slice hS.out.own
        obtain ⟨f0, f1⟩ := hS.out.cells
        have hrn : (fewR (R.take j2)).length ≤ 30 := by simp [fewR]; omega
        by_cases hlt2 : j2 < m
        · have hsnoc := fewR_snoc R j2 (by omega)
          have hRw := HR.out.step hS.out.low
          obtain ⟨b, off, rfl, hb, hcell⟩ := hRw.at (by omega)
          obtain ⟨ai, ci, c0, hc1, hc2, hrow⟩ := hcell j2 hlt2
          have hjm : (j2 : Int) < m := by omega
          clear hcell hRw
          generalize hg : R.getD j2 [] = g at *
          clear hg
          generalize fewR (R.take j2) = G at *
          by_cases h30 : j2 < 30
          · rw [if_pos h30] at hsnoc
            have g30 : (j2 : Int) < 30 := by omega
            have hS0 : Hid (FwS w wr.drew (w.heap.size + 1 + 1) w.heap.size (w.heap.size + 1) #[.slice a j c, .slice (some ⟨b, off, none⟩) m c2] (.slice xa K.length xc) K (.slice ya G.length yc) G kv) := Lib.hid (hS.out.step ((Below.refl _ _).drew))
            have hbz : w.heap.size ≤ wr.drew.heap.size := hS0.out.sz
            have hcut : Hid (fewR (R.take (j2 + 1)) = G ++ [g.take 25]) := Lib.hid hsnoc
            clear hsnoc
            have hrow := hrow.step ((Below.refl _ _).drew)
            by_cases h25 : (25 : Int) < g.length
            · have h25b : (25 : Int) ≤ g.length := by omega
              have h25c : 25 < g.length := by omega
              have h25d : 25 ≤ g.length := by omega
              have h25e : (25 : Int) ≤ ci := by omega
              have h25f : 25 ≤ ci := by omega
              have hl25 : (g.take 25).length = 25 := by simp; omega
              have hcl := Lib.hid (clone_row (c := ci) (hrow.take 25 (by omega)) (by omega))
              clear hrow
              go_upto_region 12 with fail
              go_region_law (first
                | (go_simp; go_at_call 41; (with_reducible refine hcl.out.mono ?_); rintro e7 w7 ⟨x7, rfl, hx7, hb7⟩; have hS7 := Lib.hid (hS0.out.step hb7); have hge7 := Lib.hid (fun b e => (hx7.lt b e).1); have hx7 := Lib.hid (own_base hx7 hbz); obtain ⟨za, zc, rfl⟩ := own_slice hx7.out; obtain ⟨m0, m1⟩ := hS7.out.cells; have hsz7 := hS7.out.sz; have hlt7 : w.heap.size + 1 + 1 < w7.heap.size := (Array.getElem?_eq_some_iff.1 hS7.out.box).1; have hne7 : w.heap.size + 1 + 1 ≠ w7.heap.size := Nat.ne_of_lt hlt7; clear hb7)
                | ((refine step_append_lies _ (by rfl) (.tmp 45) (.tmp 52) _ (by rfl) w.heap.size 37 k0 (.slice none 0 0) 1 24 Tryd.underlying23 kin kz0 kz1 kz2 rfl (by decide) (.slice ya G.length yc) G.length kv (by rfl) (by exact hS7.out.own.alloc _) _ 1 1 [.slice za 25 zc] (by rfl) rfl (by exact news1 _ _ _) (by intro u hu; simp at hu; subst hu; rfl) (by decide) (by unfold maxLen; omega) (by omega) (by simp; omega) _ rfl ?_; intro g8 cap8 w8 hown8 hgrow8 hat8 hlt8; obtain ⟨e0, e1, e2⟩ := hS7.out.pushR (g := g.take 25) hge7.out hS0.out.lows (by rw [hl25]; exact hx7.out) hown8 hgrow8)))
              all_goals go_wp2
              all_goals
                exact ⟨⟨j2 + 1, _, _, by omega, by go_num, Lib.hid (by rw [hcut.out]; exact e2)⟩, by simp [intOf]; omega⟩
            · have h25c : ¬ 25 < g.length := by omega
              have h0 : (0 : Int) ≤ g.length := by omega
              have hci : (g.length : Int) ≤ ci := by omega
              have hl25 : g.take 25 = g := List.take_of_length_le (by omega)
              rw [hl25] at hcut
              have hcl := Lib.hid (clone_row (c := ci) hrow (by omega))
              clear hrow
              go_upto_region 12 with fail
              go_region_law (first
                | (go_simp; go_at_call 41; (with_reducible refine hcl.out.mono ?_); rintro e7 w7 ⟨x7, rfl, hx7, hb7⟩; have hS7 := Lib.hid (hS0.out.step hb7); have hge7 := Lib.hid (fun b e => (hx7.lt b e).1); have hx7 := Lib.hid (own_base hx7 hbz); obtain ⟨za, zc, rfl⟩ := own_slice hx7.out; obtain ⟨m0, m1⟩ := hS7.out.cells; have hsz7 := hS7.out.sz; have hlt7 : w.heap.size + 1 + 1 < w7.heap.size := (Array.getElem?_eq_some_iff.1 hS7.out.box).1; have hne7 : w.heap.size + 1 + 1 ≠ w7.heap.size := Nat.ne_of_lt hlt7; clear hb7)
                | ((refine step_append_lies _ (by rfl) (.tmp 45) (.tmp 52) _ (by rfl) w.heap.size 37 k0 (.slice none 0 0) 1 24 Tryd.underlying23 kin kz0 kz1 kz2 rfl (by decide) (.slice ya G.length yc) G.length kv (by rfl) (by exact hS7.out.own.alloc _) _ 1 1 [.slice za g.length zc] (by rfl) rfl (by exact news1 _ _ _) (by intro u hu; simp at hu; subst hu; rfl) (by decide) (by unfold maxLen; omega) (by omega) (by simp; omega) _ rfl ?_; intro g8 cap8 w8 hown8 hgrow8 hat8 hlt8; obtain ⟨e0, e1, e2⟩ := hS7.out.pushR (g := g) hge7.out hS0.out.lows hx7.out hown8 hgrow8)))
              all_goals go_wp2
              all_goals
                exact ⟨⟨j2 + 1, _, _, by omega, by go_num, Lib.hid (by rw [hcut.out]; exact e2)⟩, by simp [intOf]; omega⟩
          · rw [if_neg h30] at hsnoc
            have g30 : ¬ (j2 : Int) < 30 := by omega
            have hcut : Hid (fewR (R.take (j2 + 1)) = G) := Lib.hid hsnoc
            clear hsnoc hrow
            go_wp2
            exact ⟨⟨j2 + 1, _, kv, by omega, by go_num, Lib.hid (by rw [hcut.out]; exact hS.out)⟩, by simp [intOf]; omega⟩
        · obtain rfl : j2 = m := by omega
          have eL : fewR (R.take j2) = fewR R := by rw [List.take_of_length_le (by omega)]
          rw [eL] at hS
          have hmm : ¬ (j2 : Int) < (j2 : Int) := by omega
          generalize hGe0 : fewR R = G at *
          have hGe := Lib.hid hGe0
          clear hGe0
          have hrw := hS.out.res
          have m0 := cell_of_heap hrw 0 (.slice none 0 0) rfl
          have m1 := cell_of_heap hrw 1 (.slice none 0 0) rfl
          have n0 := frozen_of_row wr (w.heap.size + 1) 0 _ _ hrw
          have n1 := frozen_of_row wr (w.heap.size + 1) 1 _ _ hrw
          have hend : Hid (∀ w9, w9 = (wr.setCell ⟨w.heap.size + 1, 0, none⟩ (.slice xa K.length xc)).setCell ⟨w.heap.size + 1, 1, none⟩ (.slice ya G.length yc) → TabF w9 w.heap.size (.slice xa K.length xc) (.slice ya G.length yc) K G ∧ Below w.heap.size w w9 ∧ w9.heap[w.heap.size + 1]? = some (.cells #[.slice xa K.length xc, .slice ya G.length yc] 25 (0, 0))) := Lib.hid (by
            rintro w9 rfl
            have hk1 : Kept (fun k => k = w.heap.size + 1) wr ((wr.setCell ⟨w.heap.size + 1, 0, none⟩ (.slice xa K.length xc)).setCell ⟨w.heap.size + 1, 1, none⟩ (.slice ya G.length yc)) := ⟨rfl, rfl, rfl, by simp, fun k _ hn => by rw [Below.heap_setCell _ _ _ _ hn, Below.heap_setCell _ _ _ _ hn]⟩
            have row : ∀ {T size n : Nat} {v : Value} {xs : List Value}, T ≠ 25 → wr.ownsRow w.heap.size T size v n xs → ((wr.setCell ⟨w.heap.size + 1, 0, none⟩ (.slice xa K.length xc)).setCell ⟨w.heap.size + 1, 1, none⟩ (.slice ya G.length yc)).ownsRow w.heap.size T size v n xs := fun hT hr =>
              own_other hr hk1 (fun k e => by subst e; exact ⟨_, _, _, hrw, fun e => hT e.symm⟩)
            refine ⟨⟨row (by decide) hS.out.bus, kv, row (by decide) hS.out.own, hS.out.far, fun i hi => by obtain ⟨x, e1, e2⟩ := hS.out.rows i hi; exact ⟨x, e1, row (by decide) e2⟩⟩, ?_, set2_heap hrw _ _⟩
            exact hS.out.low.trans (hk1.below (fun k e => by omega) hS.out.sz))
          clear hrw hS
          go_wp2
          obtain ⟨q2, q3, q4⟩ := hend.out _ rfl
          exact bodyPost_ret (v := .agg #[.slice xa K.length xc, .slice ya G.length yc]) (results_cell_row rfl _ _ _ _ _ _ _ rfl q4 Tryd.underlying25 rfl tab_size) rfl ⟨_, _, rfl, by rw [hKe.out, hGe.out]; exact q2, q3⟩
end Go.Proofs.YtnhpjacodhdpeaaDoor
