/-
  Package trace: Put.
  Words of a netlist's text: numbers to the base 10; words joined by a blank.
  Numbers to the base 10, as strconv writes them.
  Package emit: numbers, spell.
  An append of any number of elements, as a step of a region that draws its order.
-/
import Derived.Test.YtnhpjacodhdpeaaDoorFEKE
import Derived.Test.YtnhpjacodhdpeaaDoorFEKA
import Derived.Deep.AppendLies
import Derived.Maps.AppendAt
section
namespace Go.Proofs.YtnhpjacodhdpeaaDoor
open Go.RowKit Go.Maps Bits
set_option maxRecDepth 100000

/-- A text that is being made, all that was there as it was. -/
structure TS (w0 wk : World) (v : Value) (t : List UInt8) : Prop where
  tx : TX wk w0.heap.size v t
  low : Below w0.heap.size w0 wk
section
variable {w0 wk w' : World} {v v' : Value} {t : List UInt8}
theorem TS.nil (w0 : World) : TS w0 w0 (.slice none 0 0) [] := ⟨⟨rfl, .inl ⟨rfl, rfl⟩⟩, Below.refl _ _⟩
theorem TS.step (h : TS w0 wk v t) (hb : Below wk.heap.size wk w') : TS w0 w' v t := ⟨h.tx.step hb, nextw h.low hb⟩
theorem TS.sz (h : TS w0 wk v t) : w0.heap.size ≤ wk.heap.size := h.low.size
theorem TS.str (h : TS w0 wk v t) {s : ByteArray} (h1 : w'.ownsRow w0.heap.size 5 1 v' (t.length + s.size) (bys t ++ Lib.strCells s)) (h2 : wk.grownBy w' v.ownBlock) : TS w0 w' v' (t ++ s.data.toList) :=
  ⟨by show World.ownsRow _ _ _ _ _ _ _
      rw [bys_app, List.length_append]; exact h1, h.low.grown h2 h.sz (fun k hk => (h.tx.lt k hk).1)⟩
theorem TS.byte (h : TS w0 wk v t) {c : UInt8} {o : Obj} (h1 : w'.ownsRow w0.heap.size 5 1 v' (t.length + 1) (bys t ++ [.int .u8 (c.toNat : Int)])) (h2 : (wk.alloc o).grownBy w' v.ownBlock) : TS w0 w' v' (t ++ [c]) :=
  ⟨by show World.ownsRow _ _ _ _ _ _ _
      rw [bys_app, List.length_append]; exact h1, (h.low.alloc h.sz o).grown h2 (by have := h.sz; simp; omega) (fun k hk => (h.tx.lt k hk).1)⟩
theorem TS.next (h : TS w0 wk v t) {t' : List UInt8} (h1 : TX w' w0.heap.size v' t') (h2 : Below w0.heap.size wk w') : TS w0 w' v' t' := ⟨h1, h.low.trans h2⟩
/-- A block of another type beside it. -/
theorem TS.beside (h : TX wk w0.heap.size v t) {k T : Nat} {cs : Array Value} {z : Nat × Nat} (hk : wk.heap[k]? = some (.cells cs T z)) (hT : T ≠ 5) (h2 : wk.grownBy w' v.ownBlock) : w'.heap[k]? = some (.cells cs T z) := by
  rw [h2.block k (Array.getElem?_eq_some_iff.1 hk).1 ?_]
  · exact hk
  · intro e
    obtain ⟨cur, hc⟩ := own_typeK h e.symm
    rw [hk] at hc
    simp at hc
    exact hT hc.2.1
end
theorem cell_of_heap {w : World} {k T : Nat} {cs : Array Value} {z : Nat × Nat} (hk : w.heap[k]? = some (.cells cs T z)) (i : Nat) (u : Value) (h : cs[i]? = some u) : w.cell? ⟨k, i, none⟩ = some u := by
  rw [cell_of_row w k i _ _ _ hk]; exact h

def busW (b : TB) : List UInt8 := b.name.data.toList ++ [58] ++ decT b.width.toNat
def numW (x : Int) : List UInt8 := hexD x.toNat
def wordsT (ws : List (List UInt8)) : List UInt8 := ws.flatMap (· ++ [32])
def lineT (ws : List (List UInt8)) : List UInt8 := (wordsT ws).dropLast ++ [10]
def rowT (r : List Int) : List UInt8 := lineT (r.map numW)
def headT (L : List TB) : List UInt8 := lineT (L.map busW)
def putT (L : List TB) (R : List (List Int)) : List UInt8 := headT L ++ R.flatMap rowT
theorem wordsT_snoc (ws : List (List UInt8)) (x : List UInt8) : wordsT (ws ++ [x]) = wordsT ws ++ (x ++ [32]) := by simp [wordsT]
theorem wordsT_pos {ws : List (List UInt8)} (h : 0 < ws.length) : 0 < (wordsT ws).length := by
  cases ws with
  | nil => simp at h
  | cons x ws => simp [wordsT]; omega
theorem take_snoc {α : Type} (l : List α) (j : Nat) (d : α) (h : j < l.length) : l.take (j + 1) = l.take j ++ [l.getD j d] := by
  rw [List.take_add_one]; simp [List.getD, h]
theorem hexD_len {u : Nat} (h : u < 18446744073709551616) : (hexD u).length ≤ 16 := by
  unfold hexD
  rw [hexA_len]
  have key : ∀ k u, u < 16 ^ (k + 1) → nHex u ≤ k + 1 := by
    intro k
    induction k with
    | zero => intro u hu; rw [nHex_small (by simpa using hu)]; omega
    | succ k ih =>
      intro u hu
      by_cases h16 : u < 16
      · rw [nHex_small h16]; omega
      · rw [nHex_big h16]
        have := ih (u / 16) (by rw [Nat.div_lt_iff_lt_mul (by decide), ← Nat.pow_succ]; exact hu)
        omega
  exact key 15 u h

theorem endLine_any {w0 w : World} {v : Value} {t : List UInt8} (h : TS w0 w v t) (ht : 0 < t.length) (hl : t.length ≤ 100000000) :
    Calls Tryd.prog 43 #[v] w fun e w' => e = .returned (.tuple #[]) ∧ TS w0 w' v (t.dropLast ++ [10]) := by
  obtain ⟨g, cap, hv⟩ := own_form h.tx ht
  subst hv
  obtain ⟨p, hp⟩ : ∃ p, t.length = p + 1 := ⟨t.length - 1, by omega⟩
  have ho := h.tx
  unfold TX at ho
  obtain ⟨u, hu⟩ := own_some ho (show p < t.length by omega)
  have hf := ho.frozenAt p
  have hst := (ho.stored p (.int .u8 10)).1
  have hge := own_ge ho g rfl
  have hres : Hid (TS w0 (w.setCell ⟨g, p, none⟩ (.int .u8 10)) (.slice (some ⟨g, 0, none⟩) t.length cap) (t.dropLast ++ [10])) := by
    refine Lib.hid ⟨?_, h.low.trans ((Below.refl _ _).setCell (p := ⟨g, p, none⟩) hge _)⟩
    show World.ownsRow _ _ _ _ _ _ _
    have e1 : (t.dropLast ++ [(10 : UInt8)]).length = t.length := by simp; omega
    rw [e1]
    have e2 : bys (t.dropLast ++ [10]) = (bys t).set p (.int .u8 10) := by
      apply List.ext_getElem
      · simp [bys]; omega
      · intro i h1 h2
        have h3 : i < t.length := by simpa [bys] using h2
        rw [List.getElem_set]
        by_cases e : p = i
        · subst e
          simp [bys, List.getElem_append, show ¬ p < t.length - 1 by omega]
        · simp [bys, List.getElem_append, e, show i < t.length - 1 by omega]
    rw [e2]; exact hst
  have hw : (t.length : Int) - 1 = p := by omega
  clear h ho hst hge
  generalize t.length = n at *
  go_enter Tryd.func43, Tryd.ntmps43
  go_wp2
  exact bodyPost_end (v := .tuple #[]) (by simp [results, Tryd.results43]) rfl ⟨rfl, hres.out⟩

theorem heap_old {w : World} {k : Nat} {x : Obj} (h : w.heap[k]? = some x) (o : Obj) : (w.alloc o).heap[k]? = some x := by
  show (w.heap.push o)[k]? = _
  rw [Array.getElem?_push, if_neg (Nat.ne_of_lt (Array.getElem?_eq_some_iff.1 h).1)]; exact h
theorem one_byte (x : Int) : ∀ u ∈ [Value.int .u8 x], u.oneCell' = true := by
  intro u hu; simp at hu; subst hu; rfl
def PutOk (w w' : World) (e : Ending) (L : List TB) (R : List (List Int)) : Prop :=
  if mayT L R = true then ∃ v, e = .returned (.tuple #[v, .int .i64 0]) ∧ TX w' w.heap.size v (putT L R) else e = .returned (.tuple #[.slice none 0 0, .int .i64 1])
theorem busesT_of {L : List TB} (h : busesT L = true) : 1 ≤ L.length ∧ L.length ≤ 512 ∧ ∀ i, i < L.length → nameT (L.getD i tb0).name = true ∧ 1 ≤ (L.getD i tb0).width ∧ (L.getD i tb0).width ≤ 64 ∧ (atT (L.take i) (L.getD i tb0).name).isNone = true := by
  unfold busesT at h
  simp only [Bool.and_eq_true, decide_eq_true_eq] at h
  refine ⟨h.1.1, h.1.2, fun i hi => ?_⟩
  have := range_of h.2 i hi
  unfold busT wideT at this
  simp only [Bool.and_eq_true, decide_eq_true_eq] at this
  exact ⟨this.1.1, this.1.2.1, this.1.2.2, this.2⟩
theorem nameT_size {s : ByteArray} (h : nameT s = true) : 1 ≤ s.size ∧ s.size ≤ 33 := by
  unfold nameT at h; simp only [Bool.and_eq_true, decide_eq_true_eq] at h; exact h.1
theorem mayT_of {L : List TB} {R : List (List Int)} (h : mayT L R = true) : busesT L = true ∧ R.length ≤ 4096 ∧ ∀ i, i < R.length → (R.getD i []).length = L.length ∧ ∀ k, k < L.length → (R.getD i []).getD k 0 ≤ topT (L.getD k tb0).width := by
  unfold mayT at h
  simp only [Bool.and_eq_true, decide_eq_true_eq] at h
  refine ⟨h.1.1, h.1.2, fun i hi => ?_⟩
  have := range_of h.2 i hi
  unfold fitsL at this
  simp only [Bool.and_eq_true, decide_eq_true_eq] at this
  rw [tops_len] at this
  refine ⟨this.1, fun k hk => ?_⟩
  have h2 := range_of this.2 k (by omega)
  rw [tops_at _ _ hk] at h2
  simpa using h2

set_option maxHeartbeats 8000000 in
theorem Put_any {w : World} {a a2 : Option Addr} {n m : Nat} {L : List TB} {R : List (List Int)} (h : BsR w a n L) (h2 : RRk .u64 w a2 m R) (c c2 : Nat) (hc : n ≤ c) (hz : TZ w) (hW : ∀ i, Words (R.getD i [])) :
    Calls Tryd.prog 12 #[.agg #[.slice a n c, .slice a2 m c2]] w fun e w' => PutOk w w' e L R ∧ Below w.heap.size w w' := by
  obtain ⟨hbx, hbz, d0, d1⟩ := tbox (w := w) (u := .slice a n c) (v := .slice a2 m c2) _ rfl
  have hMay := Lib.hid (May_any (h.step hbx) (h2.step hbx) c c2 hc)
  have e1 := h.len
  have e2 := h2.1
  have hle2 := h2.2.1
  have hbx := Lib.hid hbx
  rcases (show mayT L R = false ∨ mayT L R = true by cases mayT L R <;> simp) with k1 | k1
  · rw [k1] at hMay
    have hfin : Hid (∀ w', PutOk w w' (.returned (.tuple #[.slice none 0 0, .int .i64 1])) L R) := Lib.hid (fun w' => by unfold PutOk; rw [k1]; simp)
    clear h h2 hW hz
    generalize hwa : w.alloc (.cells #[.slice a n c, .slice a2 m c2] 25) = wa at *
    go_enter Tryd.func12, Tryd.ntmps12
    go_wp2_with (go_at_call 20; (with_reducible refine hMay.out.mono ?_); rintro e w5 ⟨rfl, hb5⟩; have hB5 := Lib.hid (nextw hbx.out hb5); clear hb5)
    go_ret2
    exact ⟨hfin.out _, hB5.out⟩
  rw [k1] at hMay
  obtain ⟨kb, kr, krows⟩ := mayT_of k1
  obtain ⟨kn1, kn2, kbus⟩ := busesT_of kb
  have krows := Lib.hid krows
  have kbus := Lib.hid kbus
  have hfin : Hid (∀ w' v, TX w' w.heap.size v (putT L R) → PutOk w w' (.returned (.tuple #[v, .int .i64 0])) L R) := Lib.hid (fun w' v hv => by unfold PutOk; rw [k1]; exact ⟨v, by simp, hv⟩)
  have HL := Lib.hid h
  have HR := Lib.hid h2
  have HZ := Lib.hid hz
  have HW := Lib.hid hW
  obtain ⟨i0, hin, hz0, hz1, hz2⟩ := info_parts info_u8t
  clear h h2 hW hz k1 kb
  generalize hwa : w.alloc (.cells #[.slice a n c, .slice a2 m c2] 25) = wa at *
  go_enter Tryd.func12, Tryd.ntmps12
  go_wp2_with (go_at_call 20; (with_reducible refine hMay.out.mono ?_); rintro e w5 ⟨rfl, hb5⟩; have g0 := stepc hb5 hbz d0; have g1 := stepc hb5 hbz d1; have hB5 := Lib.hid (nextw hbx.out hb5); clear hb5 d0 d1 hMay)
  clear hwa hbx hbz
  have hlt5 := World.block_lt_of_cell? w5 _ g1
  have hL5 := Lib.hid (HL.out.step hB5.out)
  have hR5 := Lib.hid (HR.out.step hB5.out)
  have hZ5 := Lib.hid (HZ.out.step hB5.out)
  clear HL HR HZ
  go_loopw [17, 4] (fun i x wr => ∃ (j : Nat) (t : List UInt8), j ≤ n ∧ i = .int .i64 j ∧ Hid (TS w5 wr x t) ∧ Hid (t = wordsT ((L.take j).map busW)) ∧ t.length ≤ 37 * j) (fun i _ _ => n - (intOf i).toNat)
  case atStart => exact ⟨0, [], by omega, rfl, Lib.hid (TS.nil _), Lib.hid (by simp [wordsT]), by simp⟩
  case round =>
    obtain ⟨j, t, hj, rfl, hT, ht, htl⟩ := hrel
    by_cases hlt : j < n
    · obtain ⟨g, off, rfl, hg, hcell⟩ := hL5.out.at (by omega)
      obtain ⟨b0, b1⟩ := hcell j hlt
      have hB := hT.out.low
      have c0 := stepc hB hg b0
      have c1 := stepc hB hg b1
      have hjn : (j : Int) < n := by omega
      have hbj := kbus.out j (by omega)
      have hsnoc : Hid (t ++ (L.getD j tb0).name.data.toList ++ [58] ++ decT (L.getD j tb0).width.toNat ++ [32] = wordsT ((L.take (j + 1)).map busW)) := Lib.hid (by
        show _ = _
        rw [take_snoc L j tb0 (by omega), List.map_append, ht.out, List.map_cons, List.map_nil, wordsT_snoc]
        simp [busW])
      clear b0 b1 hcell ht hB
      generalize (L.getD j tb0).name = nm at *
      generalize (L.getD j tb0).width = wd0 at *
      obtain ⟨hnm, hw1, hw2, -⟩ := hbj
      obtain ⟨wd, rfl⟩ : ∃ wd : Nat, wd0 = wd := ⟨wd0.toNat, by omega⟩
      rw [Int.toNat_natCast] at hsnoc
      have hns := (nameT_size hnm).2
      have hdl := decT_len wd
      clear hnm
      go_upto_region 7 with fail
      have hbox : ∀ x, x = wr.alloc (.cells #[.string nm, .int .i64 (wd : Int)] 69) → TS w5 x u4 t ∧ x.heap[wr.heap.size]? = some (.cells #[.string nm, .int .i64 (wd : Int)] 69 (0, 0)) := by
        rintro x rfl
        exact ⟨hT.out.step ((Below.refl _ _).alloc (Nat.le_refl _) _), heap_alloc_new wr _⟩
      generalize hwb : wr.alloc (.cells #[.string nm, .int .i64 (wd : Int)] 69) = wb
      obtain ⟨hTb0, hbb0⟩ := hbox wb hwb.symm
      generalize wr.heap.size = bb at *
      have hTb := Lib.hid hTb0
      have hbb := Lib.hid hbb0
      have d0 := cell_of_heap hbb0 0 (.string nm) rfl
      clear hbox hwb hT hTb0 hbb0 c0 c1
      go_upto_region 8 with (at_builtin; refine Lib.wpList_append_own_string _ rfl _ _ 31 9 rfl w5.heap.size 5 i0 Tryd.underlying31 Tryd.underlying9 hin hz0 hz1 hz2 _ _ _ rfl hTb.out.tx nm rfl (by unfold maxLen; omega) (by omega) hTb.out.sz ?_; intro v7 w7 hown7 hg7 _; have hT7 := Lib.hid (hTb.out.str hown7 hg7); have hb7 := Lib.hid (TS.beside hTb.out.tx hbb.out (by decide) hg7); clear hown7 hg7)
      obtain ⟨t7, ht7⟩ : ∃ t7, t7 = t ++ nm.data.toList := ⟨_, rfl⟩
      rw [← ht7] at hT7 hsnoc
      have l7 : t7.length = t.length + nm.size := by rw [ht7, List.length_append]; rfl
      clear ht7 hTb hbb d0
      go_upto_region 9 with (at_builtin; refine wpList_append_own _ rfl _ _ 31 rfl w5.heap.size 5 i0 (.int .u8 0) 1 1 Tryd.underlying31 hin hz0 hz1 hz2 rfl (by decide) _ _ _ rfl (hT7.out.step ((Below.refl _ _).alloc (Nat.le_refl _) _)).tx ⟨_, 0, none⟩ 1 1 [.int .u8 58] rfl rfl (news1 _ _ _) (one_byte _) (by unfold maxLen; omega) (by omega) (Nat.le_trans hT7.out.sz (by simp)) ?_; intro v8 w8 hown8 hg8 _; have hT8 := Lib.hid (hT7.out.byte (c := 58) hown8 hg8); have hb8 := Lib.hid (TS.beside (hT7.out.step ((Below.refl _ _).alloc (Nat.le_refl _) _)).tx (heap_old hb7.out _) (by decide) hg8); clear hown8 hg8)
      obtain ⟨t8, ht8⟩ : ∃ t8, t8 = t7 ++ [58] := ⟨_, rfl⟩
      rw [← ht8] at hT8 hsnoc
      have l8 : t8.length = t7.length + 1 := by rw [ht8, List.length_append]; rfl
      have d1 := cell_of_heap hb8.out 1 (.int .i64 (wd : Int)) rfl
      have hap := Lib.hid (append10_any hT8.out.tx hT8.out.sz (by omega) wd (by omega))
      clear ht8 hT7 hb7 hb8
      go_upto_region 10 with (go_at_call 42; (with_reducible refine hap.out.mono ?_); rintro e w9 ⟨v9, rfl, hx9, hb9⟩; have hT9 := Lib.hid (hT8.out.next hx9 hb9); clear hx9 hb9)
      obtain ⟨t9, ht9⟩ : ∃ t9, t9 = t8 ++ decT wd := ⟨_, rfl⟩
      rw [← ht9] at hT9 hsnoc
      have l9 : t9.length = t8.length + (decT wd).length := by rw [ht9, List.length_append]
      clear ht9 hap hT8 d1
      go_upto_region 11 with (at_builtin; refine wpList_append_own _ rfl _ _ 31 rfl w5.heap.size 5 i0 (.int .u8 0) 1 1 Tryd.underlying31 hin hz0 hz1 hz2 rfl (by decide) _ _ _ rfl (hT9.out.step ((Below.refl _ _).alloc (Nat.le_refl _) _)).tx ⟨_, 0, none⟩ 1 1 [.int .u8 32] rfl rfl (news1 _ _ _) (one_byte _) (by unfold maxLen; omega) (by omega) (Nat.le_trans hT9.out.sz (by simp)) ?_; intro v8 w8 hown8 hg8 _; have hT8 := Lib.hid (hT9.out.byte (c := 32) hown8 hg8); skip; clear hown8 hg8)
      have lf : (t9 ++ [32]).length = t9.length + 1 := by simp
      go_wp2
      exact ⟨⟨j + 1, t9 ++ [32], by omega, by go_num, hT8, Lib.hid hsnoc.out, by omega⟩, by simp [intOf]; omega⟩
    · obtain rfl : j = n := by omega
      have hhead : Hid (t.dropLast ++ [10] = headT L) := Lib.hid (by
        show _ = _
        rw [ht.out, ← e1, List.take_length]; rfl)
      have htpos : 0 < t.length := by
        rw [ht.out]; exact wordsT_pos (by simp; omega)
      have hend := Lib.hid (endLine_any hT.out htpos (by omega))
      rw [hhead.out] at hend
      have hhl : (headT L).length ≤ 18944 := by rw [← hhead.out]; simp; omega
      clear ht hhead hT htpos htl
      -- ROWS
      go_upto_region 13 with (go_at_call 43; (with_reducible refine hend.out.mono ?_); rintro e w9 ⟨rfl, hT9⟩; have hT9 := Lib.hid hT9; have g9 := stepc hT9.out.low hlt5 g1)
      go_wp2
      clear hend
      go_loopw [41, 4] (fun i x wr => ∃ (j : Nat) (t : List UInt8), j ≤ m ∧ i = .int .i64 j ∧ Hid (TS w5 wr x t) ∧ Hid (t = headT L ++ (R.take j).flatMap rowT) ∧ t.length ≤ 18944 + 8704 * j) (fun i _ _ => m - (intOf i).toNat)
      case atStart => exact ⟨0, _, by omega, rfl, hT9, Lib.hid (by simp), by omega⟩
      case round =>
        clear hT9 hhl
        obtain ⟨q, t, hq, rfl, hT, ht, htl⟩ := hrel
        by_cases hlt : q < m
        · obtain ⟨b, off, rfl, hb, hcell⟩ := hR5.out.at (by omega)
          obtain ⟨ai, ci, r1, r2, r3, r4⟩ := hcell q hlt
          obtain ⟨hrl, -⟩ := krows.out q (by omega)
          have hrw := HW.out q
          have c1 := stepc hT.out.low hb r1
          have hqm : (q : Int) < m := by omega
          have hsn2 : Hid (t ++ rowT (R.getD q []) = headT L ++ (R.take (q + 1)).flatMap rowT) := Lib.hid (by
            show _ = _
            rw [take_snoc R q [] (by omega), List.flatMap_append, ht.out]; simp)
          have hrow := Lib.hid r4
          clear hcell r1 r4 ht
          generalize R.getD q [] = r at *
          rw [hrl, e1] at hrow c1 r2
          have hrl2 : r.length = j := by omega
          clear hrl
          obtain ⟨wo, rfl⟩ : ∃ wo : World, wo = wr := ⟨_, rfl⟩
          go_wp2
          go_loopw [47, 4] (fun i x wr => ∃ (k : Nat) (t2 : List UInt8), k ≤ j ∧ i = .int .i64 k ∧ Hid (TS w5 wr x t2) ∧ Hid (t2 = t ++ wordsT ((r.take k).map numW)) ∧ t2.length ≤ t.length + 17 * k) (fun i _ _ => j - (intOf i).toNat)
          case atStart => exact ⟨0, t, by omega, rfl, hT, Lib.hid (by simp [wordsT]), by omega⟩
          case round =>
            obtain ⟨k, t2, hk, rfl, hT2, ht2, htl2⟩ := hrel
            by_cases hlk : k < j
            · obtain ⟨rb, ro, rfl, hrb, hrc⟩ := hrow.out.at (by omega)
              have c2 := stepc hT2.out.low hrb (hrc k hlk)
              have hkj : (k : Int) < j := by omega
              have hxk := hrw k
              have hsn3 : Hid (t2 ++ hexD (r.getD k 0).toNat ++ [32] = t ++ wordsT ((r.take (k + 1)).map numW)) := Lib.hid (by
                show _ = _
                rw [take_snoc r k 0 (by omega), List.map_append, List.map_cons, List.map_nil, wordsT_snoc, ht2.out]
                simp [numW])
              clear hrc ht2
              generalize r.getD k 0 = x at *
              obtain ⟨u, rfl⟩ : ∃ u : Nat, x = u := ⟨x.toNat, by omega⟩
              rw [Int.toNat_natCast] at hsn3
              have hul := hexD_len (u := u) (by omega)
              have hap := Lib.hid (append16_any hT2.out.tx hT2.out.sz (by omega) (hZ5.out.step hT2.out.low) u (by omega))
              clear hT hxk
              go_upto_region 20 with (go_at_call 44; (with_reducible refine hap.out.mono ?_); rintro e w9 ⟨v9, rfl, hx9, hb9⟩; have hT9 := Lib.hid (hT2.out.next hx9 hb9); clear hx9 hb9)
              obtain ⟨t9, ht9⟩ : ∃ t9, t9 = t2 ++ hexD u := ⟨_, rfl⟩
              rw [← ht9] at hT9 hsn3
              have l9 : t9.length = t2.length + (hexD u).length := by rw [ht9, List.length_append]
              clear ht9 hap hT2
              go_upto_region 21 with (at_builtin; refine wpList_append_own _ rfl _ _ 31 rfl w5.heap.size 5 i0 (.int .u8 0) 1 1 Tryd.underlying31 hin hz0 hz1 hz2 rfl (by decide) _ _ _ rfl (hT9.out.step ((Below.refl _ _).alloc (Nat.le_refl _) _)).tx ⟨_, 0, none⟩ 1 1 [.int .u8 32] rfl rfl (news1 _ _ _) (one_byte _) (by unfold maxLen; omega) (by omega) (Nat.le_trans hT9.out.sz (by simp)) ?_; intro v8 w8 hown8 hg8 _; have hT8 := Lib.hid (hT9.out.byte (c := 32) hown8 hg8); skip; clear hown8 hg8)
              have lf : (t9 ++ [32]).length = t9.length + 1 := by simp
              go_wp2
              exact ⟨⟨k + 1, t9 ++ [32], by omega, by go_num, hT8, Lib.hid hsn3.out, by omega⟩, by simp [intOf]; omega⟩
            · obtain rfl : k = j := by omega
              have hrowT : Hid (t2.dropLast ++ [10] = t ++ rowT r) := Lib.hid (by
                show _ = _
                rw [ht2.out, ← hrl2, List.take_length, List.dropLast_append_of_ne_nil (by
                  intro h0
                  have := wordsT_pos (ws := r.map numW) (by simp; omega)
                  rw [h0] at this; simp at this), List.append_assoc]; rfl)
              have htpos : 0 < t2.length := by
                have := wordsT_pos (ws := (r.take k).map numW) (by simp; omega)
                rw [ht2.out, List.length_append]; omega
              have hend := Lib.hid (endLine_any hT2.out htpos (by omega))
              have hel : (t2.dropLast ++ [10]).length = t2.length := by simp; omega
              rw [hrowT.out] at hend hel
              rw [hsn2.out] at hend hel
              clear ht2 hrowT hT2 hT
              go_wp2_with (go_at_call 43; (with_reducible refine hend.out.mono ?_); rintro e w9 ⟨rfl, hT9⟩; have hT9 := Lib.hid hT9)
              exact ⟨⟨q + 1, _, by omega, by go_num, hT9, Lib.hid rfl, by omega⟩, by simp [intOf]; omega⟩
        · obtain rfl : q = m := by omega
          have hput : Hid (t = putT L R) := Lib.hid (by show _ = _; rw [ht.out, ← e2, List.take_length]; rfl)
          rw [hput.out] at hT
          clear ht htl
          go_wp2
          go_ret2
          have hl := hT.out.low
          refine ⟨hfin.out _ _ ⟨hT.out.tx.1, ?_⟩, hB5.out.trans (hl.mono hB5.out.size)⟩
          exact (own_base hT.out.tx hB5.out.size).2
end Go.Proofs.YtnhpjacodhdpeaaDoor
end

section
namespace Go.Proofs.YtnhpjacodhdpeaaDoor
open Go.RowKit Go.Maps Bits Go.Sort
set_option maxRecDepth 100000

theorem joinX : Builder.Extra Tryd.prog layJoin_ren := {
  sizeBuilder := by kernel_rfl,
  liesBuilder := by kernel_rfl,
  t5 := Tryd.underlying5,
  a5 := Tryd.isAgg5,
  z5 := Tryd.sizeOf5,
  v5 := Tryd.zeroValue5,
  infoByte := by kernel_rfl,
  cellsByte := by kernel_rfl,
  sizeByte := by kernel_rfl,
  neB5 := by decide }
/-- strings.Join of rows of words that lie there, some or none. -/
theorem join_any {w : World} {bk o c : Nat} (xs : List ByteArray) (sep : ByteArray) (hcells : ∀ (j : Nat) x, xs[j]? = some x → w.cell? ⟨bk, o + j, none⟩ = some (.string x)) (hbk : bk < w.heap.size) (hN : xs.length ≤ 100000) (hcap : xs.length ≤ c)
    (hlen : (Lib.join (xs.map (·.data.toList)) sep.data.toList).length ≤ 140737488355328) :
    Calls Tryd.prog 147 #[.slice (some ⟨bk, o, none⟩) xs.length c, .string sep] w fun e w' => e = .returned (.string ⟨(Lib.join (xs.map (·.data.toList)) sep.data.toList).toArray⟩) ∧ Below w.heap.size w w' :=
  Any.strings_Join layJoin joinX bk o c xs sep w hcells hbk (by omega) hcap hlen
end Go.Proofs.YtnhpjacodhdpeaaDoor
end

section
namespace Go.Proofs.YtnhpjacodhdpeaaDoor
open Go.RowKit Go.Maps Bits Go.Sort
set_option maxRecDepth 100000

/-- What the table of powers of ten must hold. -/
def PW (w : World) : Prop := Lib.TabIs Tryd.prog w "internal/strconv.uint64pow10" .u64 Lib.pow10Tab
theorem gPow : Tryd.prog.globalNamed "internal/strconv.uint64pow10" = some 1 := by kernel_rfl
theorem dec_small {w : World} (i : Nat) (h : i < 100) : Calls Tryd.prog 131 #[.int .i64 i] w fun e w' => e = .returned (.string ⟨(Lib.decDigits i).toArray⟩) ∧ w' = w := Any.internal_strconv_small laySmall i h w
theorem dec_many {w : World} (u : Nat) (h1 : 1 ≤ u) (h2 : u < 18446744073709551616) (ht : PW w) : Calls Tryd.prog 132 #[.int .u64 u] w fun e w' => e = .returned (.int .i64 (Lib.nDigits u)) ∧ w' = w := Any.internal_strconv_numDigits layDigits u h1 h2 w ht

theorem holds0 (w : World) (T : TypeId) (nd : Nat) (hs : nd ≤ 24) : Holds (fun (b : UInt8) => Value.int .u8 (b.toNat : Int)) (w.alloc (.cells Lib.zeros24 T)) w.heap.size 0 (Array.replicate nd (0 : UInt8)) := fun j hj => by
  have hj' : j < nd := by simpa using hj
  refine ⟨?_, World.frozen?_alloc_new _ _ _ _⟩
  rw [World.cell?_alloc_new, Lib.zeros24_at _ (by omega), getElem!_pos _ j hj]
  simp
theorem drews_below {W : World} (k : Nat) : Below W.heap.size W (W.drewN k) := ⟨rfl, rfl, rfl, by simp, fun j _ => by simp⟩
theorem put_below {W : World} (b off k : Nat) (dk : Array UInt8) (hb : b ≤ W.heap.size) : Below b W ((putRow (fun (x : UInt8) => Value.int .u8 (x.toNat : Int)) W b off dk).drewN k) := by
  have h : Below b W (putRow (fun (x : UInt8) => Value.int .u8 (x.toNat : Int)) W b off dk) := ⟨rfl, rfl, rfl, by simp [putRow, mapBlock], fun j hj => by
    show (W.heap.modify b _)[j]? = _
    rw [Array.getElem?_modify, if_neg (by omega)]⟩
  exact h.trans ((drews_below _).mono (by simpa [putRow, mapBlock] using hb))
set_option maxHeartbeats 4000000 in
theorem fmt_any {w : World} (u : Nat) (hu : u < 18446744073709551616) (ht : PW w) :
    Calls Tryd.prog 176 #[.int .u64 u, .int .i64 10] w fun e w' => e = .returned (.string ⟨(Lib.decDigits u).toArray⟩) ∧ Below w.heap.size w w' := by
  by_cases h : u < 100
  · have hs := Lib.hid (dec_small (w := w) u h)
    have hlt : decide ((u : Int) < 100) = true := by simp; omega
    have hw : IntKind.i64.wrap (u : Int) = (u : Int) := by unfold IntKind.wrap; simp [IntKind.signed, IntKind.bits]; omega
    go_enter Tryd.func176, Tryd.ntmps176
    go_wp2_with (go_at_call 131; (with_reducible refine hs.out.mono ?_); rintro e w2 ⟨rfl, rfl⟩)
    go_ret
    exact ⟨rfl, Below.refl _ _⟩
  · have hlt : decide ((u : Int) < 100) = false := by simp; omega
    have hu1 : 1 ≤ u := by omega
    have hnd : Lib.nDigits u ≤ 20 := by have := Lib.numDigits_eq u hu1 hu; split at this <;> omega
    have hH0 := holds0 w 202 (Lib.nDigits u) (by omega)
    have hfmt := Any.internal_strconv_formatBase10 layBase10 w.heap.size 0 24 u (Array.replicate (Lib.nDigits u) 0) (w.alloc (.cells Lib.zeros24 202)) hH0 (by rw [Array.size_replicate]; exact Lib.lt_pow_nDigits u) hu (by rw [Array.size_replicate]; omega)
    rw [Array.size_replicate] at hfmt
    have hfmt := Lib.hid (show Calls Tryd.prog 133 #[.slice (some ⟨w.heap.size, 0, none⟩) (Lib.nDigits u) 24, .int .u64 u] (w.alloc (.cells Lib.zeros24 202)) _ from hfmt)
    have HH0 := Lib.hid hH0
    have hdg := Lib.hid (dec_many (w := w.alloc (.cells Lib.zeros24 202)) u hu1 hu (Lib.tabIs_alloc ht _))
    clear hH0
    go_enter Tryd.func176, Tryd.ntmps176
    go_upto_region 5 with fail
    change Code.wp _ _ _ _ (w.alloc (.cells Lib.zeros24 202))
    have hb0 := Lib.hid ((Below.refl w.heap.size w).alloc (Nat.le_refl _) (.cells Lib.zeros24 202))
    generalize hwz : w.alloc (.cells Lib.zeros24 202) = wz at *
    have hnd0 : (0 : Int) ≤ (Lib.nDigits u : Int) := by omega
    have hndl : ((Lib.nDigits u : Nat) : Int) ≤ 24 := by omega
    go_upto_region 6 with (go_at_call 132; (with_reducible refine hdg.out.mono ?_); rintro e w2 ⟨rfl, rfl⟩)
    go_upto_region 7 with (go_at_call 133; (with_reducible refine hfmt.out.mono ?_); rintro e w3 ⟨rfl, k, v', dk, hw3, hF⟩; have hw3H := Lib.hid hw3; clear hw3)
    have hcv : (convert 31 9 (.slice (some ⟨w.heap.size, 0, none⟩) (Lib.nDigits u) 24)).run Tryd.prog w3 = .ok (.string ⟨(Lib.decDigits u).toArray⟩) w3 := by
      have h := run_convert_bytes_back (P := Tryd.prog) w3 31 9 5 ⟨w.heap.size, 0, none⟩ 24 (Lib.decDigits u) Tryd.underlying31 Tryd.underlying5 Tryd.underlying9 (fun j hj => by
        rw [hw3H.out, Lib.row_is_numeral hF j hj, Lib.add_plain, World.cell?_drewN]
        exact cell?_putRow (fun (b : UInt8) => Value.int .u8 (b.toNat : Int)) _ w.heap.size 0 _ dk HH0.out (by rw [hF.size, Array.size_replicate]) j (by rw [hF.size]; rw [Lib.decDigits_length] at hj; exact hj))
      rw [Lib.decDigits_length] at h
      exact h
    have hb3 : Below w.heap.size w w3 := by
      rw [hw3H.out]
      exact hb0.out.trans (put_below _ _ _ _ hb0.out.size)
    clear hw3H hF hfmt hwz
    go_wp2
    go_ret
    exact ⟨rfl, hb3⟩
end Go.Proofs.YtnhpjacodhdpeaaDoor
end

section
namespace Go.Proofs.YtnhpjacodhdpeaaDoor
open Go.RowKit Go.Maps Bits
set_option maxRecDepth 100000

theorem PW.step {w w' : World} (h : PW w) (hb : Below w.heap.size w w') : PW w' := by
  unfold PW Lib.TabIs World.var? at *
  rw [gPow] at h ⊢
  simp only [Option.bind_some] at h ⊢
  have hlt : 1 < w.heap.size := by
    rcases Nat.lt_or_ge 1 w.heap.size with h' | h'
    · exact h'
    · rw [Array.getElem?_eq_none h'] at h; simp at h
  rw [hb.block _ hlt]
  exact h
/-- A row of values that is being filled. -/
def fillV (f : Nat → Value) (z : Value) (k j : Nat) : List Value := (List.range k).map (fun i => if i < j then f i else z)
theorem fillV_set (f : Nat → Value) (z : Value) (k j : Nat) : (fillV f z k j).set j (f j) = fillV f z k (j + 1) := by
  apply List.ext_getElem
  · simp [fillV]
  · intro i h1 h2
    simp [fillV, List.getElem_set] at *
    by_cases e : j = i
    · subst e; simp
    · simp only [if_neg e]
      by_cases e2 : i < j
      · rw [if_pos e2, if_pos (by omega)]
      · rw [if_neg e2, if_neg (by omega)]
theorem fillV_full (f : Nat → Value) (z : Value) (k : Nat) : fillV f z k k = (List.range k).map f := by
  unfold fillV
  apply List.map_congr_left
  intro i hi
  rw [if_pos (by simpa using hi)]
theorem fillV_zero (f : Nat → Value) (s : ByteArray) (k : Nat) : (madeCells (Value.string s).cells (k * 1)).toList = fillV f (.string s) k 0 := by
  apply List.ext_getElem
  · simp [madeCells, fillV, Value.cells]
  · intro i h1 h2; simp [madeCells, fillV, Value.cells, Nat.mod_one]
theorem fillV_put {w : World} {base T k b j : Nat} {f : Nat → Value} {z : Value} (ho : w.ownsRow base T 1 (.slice (some ⟨b, 0, none⟩) k k) k (fillV f z k j)) (hj : j < k) :
    (∃ u, w.cell? ⟨b, j, none⟩ = some u) ∧ w.frozen? ⟨b, j, none⟩ = false ∧ (w.setCell ⟨b, j, none⟩ (f j)).ownsRow base T 1 (.slice (some ⟨b, 0, none⟩) k k) k (fillV f z k (j + 1)) ∧ Below base w (w.setCell ⟨b, j, none⟩ (f j)) := by
  have hb := own_ge ho b rfl
  refine ⟨own_some ho hj, ho.frozenAt j, ?_, (Below.refl _ _).setCell (p := ⟨b, j, none⟩) hb _⟩
  rw [← fillV_set]
  exact (ho.stored j _).1
/-- A number to the base 10. -/
def decS (x : Int) : ByteArray := ⟨(Lib.decDigits x.toNat).toArray⟩
theorem info_strt : (Tryd.prog.info? 9).map (fun i => (i.zero, i.size, i.bytes)) = some (some (.string ByteArray.empty), 1, 16) := by kernel_rfl
theorem fmt10_any {w : World} (x : Int) (h0 : 0 ≤ x) (h1 : x < 18446744073709551616) (ht : PW w) :
    Calls Tryd.prog 167 #[.int .u64 x, .int .i64 10] w fun e w' => e = .returned (.string (decS x)) ∧ Below w.heap.size w w' := by
  obtain ⟨u, rfl⟩ : ∃ u : Nat, x = u := ⟨x.toNat, by omega⟩
  have hf := Lib.hid (fmt_any (w := w) u (by omega) ht)
  go_enter Tryd.func167, Tryd.ntmps167
  go_wp2_with (go_at_call 176; (with_reducible refine hf.out.mono ?_); rintro e w2 ⟨rfl, hb⟩)
  go_ret
  exact ⟨rfl, hb⟩
set_option maxHeartbeats 4000000 in
theorem numbers10_any {w : World} {a : Option Addr} {n c : Nat} {l : List Int} (h : Row .u32 w a n l) (hl : ∀ i, 0 ≤ l.getD i 0 ∧ l.getD i 0 < 4294967296) (hn : n ≤ 200000) (ht : PW w) :
    Calls Tryd.prog 148 #[.slice a n c] w fun e w' => ∃ g : Nat, e = .returned (.slice (some ⟨g, 0, none⟩) n n) ∧ w'.ownsRow w.heap.size 9 1 (.slice (some ⟨g, 0, none⟩) n n) n ((List.range n).map (fun i => Value.string (decS (l.getD i 0)))) ∧ Below w.heap.size w w' := by
  obtain ⟨i0, hin, hz0, hz1, hz2⟩ := info_parts info_strt
  have HR := Lib.hid h
  have hT := Lib.hid (fun w3 (hb : Below w.heap.size w w3) => ht.step hb)
  have hl := Lib.hid hl
  obtain ⟨F, hF⟩ : ∃ F : Nat → Value, F = fun i => Value.string (decS (l.getD i 0)) := ⟨_, rfl⟩
  have hFF := Lib.hid (fun i => congrFun hF i)
  rw [← hF]
  have HZ := Lib.hid (fillV_zero F ByteArray.empty n)
  clear h ht hF
  go_enter Tryd.func148, Tryd.ntmps148
  go_upto_region 2 with (at_make; refine wpList_make_full _ rfl _ _ 221 rfl w.heap.size 9 i0 (.string ByteArray.empty) 1 Tryd.underlying221 hin hz0 hz1 .i64 .i64 n n n rfl rfl rfl rfl (by rw [hz2]; omega) (by unfold maxLen; omega) (Nat.le_refl _) ?_; intro w3 hown hg; have hbg := Lib.hid ((Below.refl w.heap.size w).grown hg (Nat.le_refl _) (fun _ h => by cases h)); clear hg)
  go_wp2
  go_loopw [4, 5, 11] (fun _ _ i wr => ∃ j : Nat, j ≤ n ∧ i = .int .i64 j ∧ Hid (wr.ownsRow w.heap.size 9 1 (.slice (some ⟨w.heap.size, 0, none⟩) n n) n (fillV F (.string ByteArray.empty) n j)) ∧ Hid (Below w.heap.size w wr)) (fun _ _ i _ => n - (intOf i).toNat)
  case atStart => exact ⟨0, Nat.zero_le _, rfl, Lib.hid (by rw [← HZ.out]; exact hown), hbg⟩
  case round =>
    clear hown HZ hbg
    obtain ⟨j, hj, rfl, hown, hw⟩ := hrel
    obtain ⟨wj, rfl⟩ : ∃ wj : World, wj = wr := ⟨_, rfl⟩
    by_cases hlj : j < n
    · obtain ⟨b, off, rfl, hb, hcell⟩ := (HR.out.step hw.out).at (by omega)
      have d0 := hcell j hlj
      have hx := hl.out j
      have hFj := hFF.out j
      have hjn : (j : Int) < n := by omega
      have hj0 : (0 : Int) ≤ j := by omega
      clear hcell
      generalize l.getD j 0 = x at *
      have hxw : IntKind.u64.wrap x = x := by rw [IntKind.wrap_u64]; omega
      have hfm := Lib.hid (fmt10_any (w := wj) x hx.1 (by omega) (hT.out wj hw.out))
      have hst := Lib.hid (fun (w5 : World) (hb5 : Below wj.heap.size wj w5) => (by have h := fillV_put (own_below hown.out hb5) hlj; rw [hFj] at h; exact h : (∃ u, w5.cell? ⟨w.heap.size, j, none⟩ = some u) ∧ w5.frozen? ⟨w.heap.size, j, none⟩ = false ∧ (w5.setCell ⟨w.heap.size, j, none⟩ (.string (decS x))).ownsRow w.heap.size 9 1 (.slice (some ⟨w.heap.size, 0, none⟩) n n) n (fillV F (.string ByteArray.empty) n (j + 1)) ∧ Below w.heap.size w5 (w5.setCell ⟨w.heap.size, j, none⟩ (.string (decS x)))))
      clear hFj hx hown
      go_wp2_with (go_at_call 167; (with_reducible refine hfm.out.mono ?_); rintro e w5 ⟨rfl, hb5⟩; obtain ⟨⟨u, hu⟩, hfz, hs1, hs2⟩ := hst.out w5 hb5; have hs1 := Lib.hid hs1; have hw5 := Lib.hid ((nextw hw.out hb5).trans hs2); clear hb5 hs2)
      exact ⟨⟨j + 1, by omega, by go_num, hs1, hw5⟩, by simp [intOf]; omega⟩
    · obtain rfl : j = n := by omega
      rw [fillV_full] at hown
      go_wp2
      go_ret
      exact ⟨_, rfl, hown.out, hw.out⟩
/-- A line: words, a blank between. -/
def spellS (xs : List ByteArray) : ByteArray := ⟨(Lib.join (xs.map (·.data.toList)) [32]).toArray⟩
end Go.Proofs.YtnhpjacodhdpeaaDoor
end

section
namespace Go.Proofs.YtnhpjacodhdpeaaDoor
open Go.RowKit Go.Maps Bits
theorem own_cap2 {w : World} {base e size n cap : Nat} {a : Option Addr} {xs : List Value} (h : w.ownsRow base e size (.slice a n cap) n xs) : n ≤ cap ∧ cap ≤ maxLen := by
  rcases h.2 with ⟨h0, h1⟩ | ⟨g, c2, cur, hv, -, -, h1, h2, -⟩
  · simp at h0; omega
  · simp at hv; omega
/-- An append of so many as there are, some or none, as a step of a region that draws its order. -/
theorem step_append_any {P : Program} {w : World} {ops : Array Oper} {o : Oper} {a : Act} {K : Act → World → Prop} {Q : Exit → Act → World → Prop} {E : Prop} (hgd : o.guard = none) (s x : Operand) (t : TypeId)
    (ho : o.op = .call { callee := .builtin .append, args := #[s, x], argTypes := #[t, t] })
    (base : Nat) (e : TypeId) (i : TypeInfo) (z : Value) (size bytes : Nat) (ht : P.underlying t = some (.slice e)) (hi : P.info? e = some i) (hz : i.zero = some z)
    (hsize : i.size = size) (hby : i.bytes = bytes) (hzs : z.cells.size = size) (hsz : 0 < size)
    (v : Value) (n : Nat) (xs : List Value) (hs : a.eval s = v) (hown : w.ownsRow base e size v n xs)
    (ad : Addr) (m c : Nat) (news : List Value) (hx : a.eval x = .slice (some ad) m c) (hl : news.length = m * size) (hnews : ∀ j u, news[j]? = some u → w.cell? (ad.add j) = some u) (h1 : ∀ u ∈ news, u.oneCell' = true)
    (h63 : n + m ≤ maxLen) (hbytes : (n + m) * bytes ≤ 140737488355328) (hbase : base ≤ w.heap.size)
    (h : ∀ v' w', w'.ownsRow base e size v' (n + m) (xs ++ news) → w.grownBy w' v.ownBlock → K (a.put o.dst v') w') :
    if Region.wanted o (yielded ops a.tmps) = true then Oper.wp P o a w K Q else E := by
  have hw : Region.wanted o (yielded ops a.tmps) = true := by simp [Region.wanted, hgd]
  rw [if_pos hw]
  obtain ⟨v', w', hr, h2, h3, h4, h5⟩ := run_append_own_at (P := P) w base t o.type e i z size bytes ht hi hz hsize hby hzs hsz v n xs hown ad m c news hl hnews h1 h63 hbytes hbase
  unfold Oper.wp execOp
  simp only [ho, resolve, invoke, builtin, Sem.run_bind, Sem.run_pure, Result.andThen_ok, List.map_toArray, List.map_cons, List.map_nil, hs, hx, hr]
  exact h v' w' h2 h3
end Go.Proofs.YtnhpjacodhdpeaaDoor
end
