/-
  tell: what is told in order, and what is left.
-/
import Derived.Test.YtocfchgkfaogdaaLvS
import Derived.Deep.CutBlock
import Derived.Deep.DeepCutAuto
import Derived.Lib.SliceRun
namespace Go.Proofs.Ytocfchgkfaogdaa
open Go.RowKit Go.Maps
set_option maxRecDepth 100000

theorem info_row : (Try.prog.info? 23).map (fun i => (i.zero, i.size, i.bytes)) = some (some (.slice none 0 0), 1, 24) := by kernel_rfl
theorem ints_le : ∀ (J : Nat) (l : List Int), l.Nodup → (∀ z ∈ l, ∃ i : Nat, z = (i : Int) ∧ i < J) → l.length ≤ J
  | 0, l, _, h => by
    cases l with
    | nil => simp
    | cons a l => obtain ⟨i, -, hi⟩ := h a (by simp); omega
  | J + 1, l, hn, h => by
    by_cases hm : (J : Int) ∈ l
    · have h1 := ints_le J (l.erase (J : Int)) (hn.erase _) (fun z hz => by
        rw [hn.mem_erase_iff] at hz
        obtain ⟨i, e, hi⟩ := h z hz.2
        exact ⟨i, e, by have : i ≠ J := (by rintro rfl; exact hz.1 e); omega⟩)
      rw [List.length_erase_of_mem hm] at h1
      omega
    · have h1 := ints_le J l hn (fun z hz => by
        obtain ⟨i, e, hi⟩ := h z hz
        exact ⟨i, e, by have : i ≠ J := (by rintro rfl; exact hm (e ▸ hz)); omega⟩)
      omega
theorem Sq.len {N : List (List Int)} {J : Nat} {T R : List Nat} {l : List Int} (h : Sq N J T R l) : l.length ≤ J :=
  ints_le J l h.nodup (fun z hz => by obtain ⟨i, e, hi, -⟩ := (h.mem z).1 hz; exact ⟨i, e, hi⟩)
/-- The box, the map, the row of rows: new. -/
theorem tm_new {w w3 : World} {n bu : Nat} (hb : Below w.heap.size w w3)
    (hm : ∀ f, LMap w3 w.heap.size [] f) (hu : w3.ownsRow w.heap.size 23 1 (.slice (some ⟨bu, 0, none⟩) n n) n ((List.range n).map (fun _ => Value.slice none 0 0))) (f : Nat → Int) :
    TM w (w3.alloc (.cells #[.slice none 0 0] 71)) w.heap.size [] f w3.heap.size (.slice none 0 0) [] bu n (fun _ => .slice none 0 0) (fun _ => []) (.slice none 0 0) [] := by
  have h1 : Below w3.heap.size w3 (w3.alloc (.cells #[.slice none 0 0] 71)) := (Below.refl _ _).alloc (Nat.le_refl _) _
  have hq : (w3.alloc (.cells #[.slice none 0 0] 71)).heap[w3.heap.size]? = some (.cells #[.slice none 0 0] 71 (0, 0)) := heap_alloc_new _ _
  exact ⟨nextw hb h1, (hm f).step h1, Nat.le_refl _, ⟨hq, own_nil _ _ _⟩, fun k hk => by rcases hk with rfl | hk; exact hb.size; simp [Value.ownBlock] at hk, own_below hu h1, fun k _ => own_nil _ _ _, own_nil _ _ _,
    fun k j _ _ _ b e => by simp [Value.ownBlock] at e, fun k _ b e => by simp [Value.ownBlock] at e, fun k _ b e => by simp [Value.ownBlock] at e, fun b e => by simp [Value.ownBlock] at e⟩
theorem made_nil (n : Nat) : (madeCells (Value.slice none 0 0).cells (n * 1)).toList = (List.range n).map (fun _ => Value.slice none 0 0) := by
  apply List.ext_getElem
  · simp [madeCells, Value.cells]
  · intro i h1 h2; simp [madeCells, Value.cells, Nat.mod_one]
def lenV : Value → Nat | .slice _ n _ => n | _ => 0

set_option maxHeartbeats 16000000 in
theorem tell_any {w : World} {a : Option Addr} {n : Nat} {N : List (List Int)} (h : RR w a n N) (hm : mayN N = true) (hn : n ≤ 1000) (hr : ∀ i, (N.getD i []).length ≤ 1000) (c : Nat) :
    Calls Try.prog 31 #[.slice a n c] w fun e w' => ∃ (va : Option Addr) (ca bm : Nat) (ks : List Nat) (f : Nat → Int), e = .returned (.tuple #[.slice va (told N).length ca, .map (some bm)]) ∧
      w'.ownsRow w.heap.size 3 1 (.slice va (told N).length ca) (told N).length (ints (iz (told N))) ∧ LMap w' bm ks f ∧ ks.Nodup ∧ (∀ i, i ∈ ks ↔ i < n ∧ i ∉ told N) ∧ Below w.heap.size w w' := by
  have hmm : ∀ W : World, (Instr.makeMap 54 (some (.int .i64 (n : Int)))).run Try.prog W = .ok (.map (some W.heap.size)) (W.alloc (.map #[] 0)) := fun W => by kernel_rfl
  obtain ⟨i0, hi, hz0, hz1, hz2⟩ := info_parts info_int
  obtain ⟨j0, ji, jz0, jz1, jz2⟩ := info_parts info_row
  have hl := h.len
  have hmade := Lib.hid (made_nil n)
  have H := Lib.hid h
  have HM := Lib.hid hm
  have HR := Lib.hid hr
  clear h hm hr
  go_enter Try.func31, Try.ntmps31
  go_upto_region 4 with (at_make; refine wpList_make_full _ rfl _ _ 22 rfl w.heap.size 23 j0 (.slice none 0 0) 1 Try.underlying22 ji jz0 jz1 .i64 .i64 n n n rfl rfl rfl rfl (by rw [jz2]; omega) (by unfold maxLen; omega) (by simp) ?_; intro w1 hown hg)
  have hT0 := Lib.hid (tm_new (w := w) (w3 := w1) (bu := (w.alloc (.map #[] 0)).heap.size) (n := n) (((Below.refl w.heap.size w).alloc (Nat.le_refl _) _).grown hg (by simp) (fun _ h => by cases h))
    (fun f => (LMap.made w f).step ((Below.refl _ _).grown hg (Nat.le_refl _) (fun _ h => by cases h))) (by rw [← hmade.out]; exact hown) (fun _ => 0))
  rw [show (w.alloc (.map #[] 0)).heap.size = w.heap.size + 1 by simp] at hT0
  generalize w.heap.size + 1 = bu at *
  clear hown hmade hmm
  generalize w1.heap.size = q at *
  generalize w1.alloc (.cells #[.slice none 0 0] 71) = w2 at *
  clear hg
  go_wp2
  go_loopw [25] (fun s wr => ∃ (j : Nat) (V : Nat → Value) (U : Nat → List Nat) (vq : Value) (l : List Int) (ks : List Nat) (f : Nat → Int), s = .int .i64 j ∧ j ≤ n ∧ Hid (TM w wr w.heap.size ks f q vq l bu n V U (.slice none 0 0) []) ∧ Hid (Lf N j [] [] ks f ∧ Sq N j [] [] l ∧ IsHeap l ∧ ∀ k, U k = us N j k)) (fun s _ => n - (RowKit.intOf s).toNat)
  case atStart => exact ⟨0, _, _, _, _, _, _, rfl, by omega, hT0, Lib.hid ⟨Lf.nil N _, Sq.nil N, fun k _ hk => by simp at hk, fun k => by simp [us]⟩⟩
  case round =>
    clear hT0
    obtain ⟨j, V, U, vq, l, ks, f, rfl, hj, hT, hS⟩ := hrel
    by_cases hlt : j < n
    · obtain ⟨b, off, rfl, hb, hcell⟩ := H.out.at (by omega)
      obtain ⟨ai, ci, c1, q1, q2, hrow⟩ := hcell j hlt
      have c1r := stepc hT.out.low hb c1
      have hjn : (j : Int) < n := by omega
      have hmj : (N.getD j []).length ≤ 1000 := HR.out j
      obtain ⟨hjk, hLf⟩ := hS.out.1.thing
      have hksl : ks.length ≤ 1000 := by have := nodup_le n ks hS.out.1.nodup (fun i hi => by have := ((hS.out.1.mem i).1 hi).1; omega); omega
      obtain ⟨D, hown, hD⟩ := hT.out.map
      have HO := Lib.hid hown
      have hput := Lib.hid (fun w7 (h1 : w7.ownsMap Try.prog 3 (plainElem Try.prog 3) w.heap.size (ks.length + 1) (D.put (ikey j) (.lit (.int .i64 ((N.getD j []).length : Int))))) (h2 : wr.grownBy w7 (some w.heap.size)) => hT.out.mapd h2 (LMap.of h1 (hD.putNew (by omega) hjk _)))
      have hwf : (Lit.int .i64 ((N.getD j []).length : Int)).wf = true := int_wf (by omega)
      clear hcell hown hD c1
      generalize hm : (N.getD j []).length = m at *
      go_wp2_with (at_mapUpdate; refine wpList_mapUpdate_own _ rfl _ _ _ 54 rfl 3 3 ilaw Try.underlying54 _ w.heap.size _ _ rfl HO.out (by unfold maxLen; omega) _ _ (ikey j) rfl rfl (key_int (by omega)) (.lit (.int .i64 (m : Int))) [] (plainElem_int Try.underlying3 hwf) ?_; intro w7 hown7 hgrow7; have hT7 := Lib.hid (hput.out _ hown7 hgrow7); clear hown7 hgrow7)
      clear hput HO hwf hT c1r
      have hLf := Lib.hid hLf
      go_loopw [36] (fun s wq => ∃ (p : Nat) (V1 : Nat → Value) (U1 : Nat → List Nat), s = .int .i64 p ∧ p ≤ m ∧ Hid (TM w wq w.heap.size (ks ++ [j]) (upd f j (m : Int)) q vq l bu n V1 U1 (.slice none 0 0) []) ∧ Hid (∀ k, U1 k = us N j k ++ List.replicate (((nd N j).take p).count k) j)) (fun s _ => m - (RowKit.intOf s).toNat)
      case atStart => exact ⟨0, V, U, rfl, by omega, hT7, Lib.hid (fun k => by rw [hS.out.2.2.2 k]; simp)⟩
      case round =>
        clear hT7
        obtain ⟨p, V1, U1, rfl, hp, hT, hU⟩ := hrel
        by_cases hpm : p < m
        · obtain ⟨rb, roff, rfl, hrb, hrc⟩ := hrow.at (by omega)
          have cr := stepc hT.out.low hrb (hrc p hpm)
          obtain ⟨ey, hyn⟩ := may_get HM.out (i := j) (p := p) (by omega)
          rw [ey] at cr
          have hnx := Lib.hid (us_next (N := N) (p := p) (by rw [nd_len]; omega) rfl hU.out)
          generalize (nd N j).getD p 0 = y at *
          rw [hl] at hyn
          obtain ⟨cu, fu⟩ := hT.out.ucell hyn
          obtain ⟨ua, uc, eu⟩ := hT.out.uform hyn
          have hzl : (U1 y).length ≤ 2000000 := by
            rw [hU.out y, List.length_append, List.length_replicate]
            have h1 := us_len HR.out j y
            have h2 := List.count_le_length (a := y) (l := (nd N j).take p)
            have h3 : ((nd N j).take p).length ≤ p := List.length_take_le _ _
            omega
          have hu0 := hT.out.ur y hyn
          generalize hz : (U1 y).length = z at *
          rw [eu] at cu hu0
          have hus := Lib.hid (hT.out.user2 hyn eu hz)
          have hur := Lib.hid hu0
          clear hu0
          have hls := hT.out.low.size
          have hyi : (y : Int) < n := by omega
          have hpi : (p : Int) < m := by omega
          have hbul := (hT.out.lt).1
          have hne : some bu ≠ (Value.slice ua z uc).ownBlock := fun e => by
            obtain ⟨cur, hc⟩ := own_type hur.out e.symm
            obtain ⟨cur2, hc2⟩ := hT.out.ubl
            exact absurd (kinds hc hc2) (by decide)
          clear hrc ey eu
          go_wp2_with (at_builtin; refine wpList_append_lies _ rfl _ _ 23 rfl w.heap.size 3 i0 (.int .i64 0) 1 8 Try.underlying23 hi hz0 hz1 hz2 rfl (by decide) (.slice ua z uc) z _ rfl (hur.out.alloc _) ⟨_, 0, none⟩ 1 1 [.int .i64 (j : Int)] rfl rfl (news1 _ _ _) (by simp [Value.oneCell']) (by decide) (by unfold maxLen; omega) (by omega) (by simp; omega) _ rfl ?_; intro g1 cap1 w8 hown8 hgrow8 hat8 hlt8; obtain ⟨x0, x1⟩ := grow_box hgrow8 (b := bu) (o := y) (v := .slice ua z uc) (by simp [go_sem, hbul, cu]) (by simp [go_sem, hbul, fu]) hne)
          exact ⟨⟨p + 1, _, _, by go_num, by omega, Lib.hid (hus.out _ _ _ _ _ ((Below.refl _ _).alloc (Nat.le_refl _) _) hown8 hgrow8 hat8), hnx⟩, by simp [RowKit.intOf]; omega⟩
        · obtain rfl : p = m := by omega
          have hU2 := Lib.hid (us_full (by rw [nd_len]; exact hm) hU.out)
          have hll := hS.out.2.1.len
          have hpu := Lib.hid (hpush_any (n := l.length) hT.out.que hS.out.2.2.1 rfl (by omega) (j : Int))
          clear hU hrow
          by_cases h0 : p = 0
          · subst h0
            go_wp2_with (go_at_call 41; (with_reducible refine hpu.out.mono ?_); rintro e w9 ⟨rfl, v', l', hP, hH, hq⟩; have hT9 := Lib.hid (hT.out.qstep hq); clear hq)
            exact ⟨⟨j + 1, V1, U1, v', l', _, _, by go_num, by omega, hT9, Lib.hid ⟨hLf.out, hS.out.2.1.thing0 hP hm, hH, hU2.out⟩⟩, by simp [RowKit.intOf]; omega⟩
          · have hpz : ((p : Int) == 0) = false := beq_eq_false_iff_ne.2 (by omega)
            go_wp2
            exact ⟨⟨j + 1, V1, U1, vq, l, _, _, by go_num, by omega, hT, Lib.hid ⟨hLf.out, hS.out.2.1.thing (by omega), hS.out.2.2.1, hU2.out⟩⟩, by simp [RowKit.intOf]; omega⟩
    · obtain rfl : n = j := by omega
      clear H
      have hU : Hid (∀ k, U k = us N n k) := Lib.hid hS.out.2.2.2
      have hS1 : Hid (Lf N n [] [] ks f ∧ Sq N n [] [] l ∧ IsHeap l) := Lib.hid ⟨hS.out.1, hS.out.2.1, hS.out.2.2.1⟩
      clear hS
      subst hl
      go_wp2
      go_loopw [11] (fun s wr => ∃ (T : List Nat) (vq : Value) (l : List Int) (ks : List Nat) (f : Nat → Int) (ta : Option Addr) (tc : Nat), s = .slice ta T.length tc ∧ Hid (TM w wr w.heap.size ks f q vq l bu N.length V U (.slice ta T.length tc) T) ∧ Hid (Tld N T ∧ Lf N N.length T [] ks f ∧ Sq N N.length T [] l ∧ IsHeap l)) (fun s _ => N.length - lenV s)
      case atStart => exact ⟨[], vq, l, ks, f, none, 0, rfl, hT, Lib.hid ⟨Tld.nil N, hS1.out⟩⟩
      case round =>
        clear hT hS1
        obtain ⟨T, vq, l, ks, f, ta, tc, rfl, hT, hS⟩ := hrel
        have cq := hT.out.que.cell
        obtain ⟨qa, qc, eq⟩ := hT.out.que.form
        rw [eq] at cq
        have hlen := Lib.hid (fun w => len_any qa l.length qc w)
        by_cases h0 : l.length = 0
        · have hl0 : l = [] := List.eq_nil_of_length_eq_zero h0
          have hfin := hS.out.2.2.1
          rw [hl0] at hfin
          have htold := hfin.none hS.out.1
          rw [h0] at cq hlen
          have hT2 := Lib.hid (show T.length = (told N).length from by rw [htold])
          go_wp2_with (go_at_call 42; (with_reducible refine (hlen.out _).mono ?_); rintro e w5 ⟨rfl, rfl⟩)
          go_ret2
          rw [htold]
          exact ⟨ta, tc, _, ks, f, rfl, hT.out.tr, hT.out.map, hS.out.2.1.nodup, hS.out.2.1.mem, hT.out.low⟩
        · obtain ⟨m, hm⟩ : ∃ m, l.length = m + 1 := ⟨l.length - 1, by omega⟩
          have hml := hS.out.2.2.1.len
          obtain ⟨x, ex, hx, hxT, hnx, hTl, hSq, hus⟩ := hS.out.2.2.1.pop hS.out.1 hS.out.2.2.2 (by omega)
          obtain ⟨hxk, hLf⟩ := hS.out.2.1.pop hx hxT
          have hpop0 := hpop_any hT.out.que hS.out.2.2.2 hm (by omega)
          rw [ex] at hpop0 hSq
          have hpop := Lib.hid hpop0
          have hnd : Hid (ks.Nodup ∧ ks.length ≤ 1000) := Lib.hid ⟨hS.out.2.1.nodup, by have := nodup_le N.length ks hS.out.2.1.nodup (fun i hi => ((hS.out.2.1.mem i).1 hi).1); omega⟩
          have hP : Hid (Tld N (T ++ [x]) ∧ Lf N N.length (T ++ [x]) (us N N.length x) (ks.erase x) f ∧ (∀ (l' : List Int), l.Perm (↑x :: l') → Sq N N.length (T ++ [x]) (us N N.length x) l') ∧ (∀ (u : Nat), u ∈ us N N.length x → u < N.length ∧ ¬u ∈ T ++ [x])) := Lib.hid ⟨hTl, hLf, hSq, hus⟩
          clear hpop0 hnx hxT
          have hta : ∀ W : World, (Instr.typeAssert (.iface 3 (.int .i64 (x : Int))) 20 3 false).run Try.prog W = .ok (.int .i64 (x : Int)) W := fun W => by kernel_rfl
          have hTlen := hS.out.1.len
          have hmeas : T.length < N.length := by have := hTl.len; simp at this; omega
          generalize hz : T.length = t at *
          obtain ⟨ua, uc, eu⟩ := hT.out.uform hx
          have hxi : (x : Int) < N.length := by omega
          have hg0 : decide ((0 : Int) < (l.length : Int)) = true := by simp; omega
          clear cq
          have cq := hT.out.que.cell
          rw [eq] at cq
          have hux := Lib.hid (hU.out x)
          generalize hzz : (U x).length = z at *
          have hxm : x ≤ 1000000 := by omega
          clear hTl hLf hSq hus hS hm ex
          go_wp2_with (first
            | (go_at_call 42; (with_reducible refine (hlen.out _).mono ?_); rintro e w5 ⟨rfl, rfl⟩)
            | (go_at_call 43; (with_reducible refine hpop.out.mono ?_); rintro e w5 ⟨rfl, vq1, l1, hp1, hh1, hq1⟩; have hT1 := Lib.hid (hT.out.qstep hq1); have hhp := Lib.hid hh1; have hpp := Lib.hid hp1; have htr := Lib.hid hT1.out.tr; have hls := hT1.out.low.size; clear hq1 hT hh1 hp1 cq)
            | (at_builtin; refine wpList_append_lies _ rfl _ _ 23 rfl w.heap.size 3 i0 (.int .i64 0) 1 8 Try.underlying23 hi hz0 hz1 hz2 rfl (by decide) (.slice ta t tc) t _ rfl ((by have := htr.out; rw [hz] at this; exact this : World.ownsRow _ _ _ _ _ _ _).alloc _) ⟨_, 0, none⟩ 1 1 [.int .i64 (x : Int)] rfl rfl (news1 _ _ _) (by simp [Value.oneCell']) (by decide) (by unfold maxLen; omega) (by omega) (by simp; omega) _ rfl ?_; intro g1 cap1 w8 hown8 hgrow8 hat8 hlt8; have hT2 := Lib.hid (hT1.out.told2 hz _ _ _ _ _ ((Below.refl _ _).alloc (Nat.le_refl _) _) hown8 hgrow8 hat8); clear hT1 hown8 hgrow8 hat8 hlt8 htr)
            | (at_delete; obtain ⟨D, hown, hD⟩ := hT2.out.map; refine wpList_delete_own _ rfl _ _ 54 _ rfl 3 ilaw Try.underlying54 _ w.heap.size _ D rfl hown _ _ rfl (key_int hxm) ?_; intro w9 hown9 hturn9; have hT3 := Lib.hid (hT2.out.mapd hturn9.grown (LMap.of hown9 (hD.del hnd.out.1 hxm hxk))); obtain ⟨cu, fu⟩ := hT3.out.ucell hx; rw [eu] at cu; clear hown9 hturn9 hown hD hT2))
          have hS0 := Lib.hid (show Lf N N.length (T ++ [x]) ((us N N.length x).drop 0) (ks.erase x) f ∧ Sq N N.length (T ++ [x]) ((us N N.length x).drop 0) l1 ∧ IsHeap l1 from ⟨hP.out.2.1, hP.out.2.2.1 _ hpp.out, hhp.out⟩)
          have hR : Hid ((us N N.length x).length = z ∧ z ≤ 1000000 ∧ ∀ (u : Nat), u ∈ us N N.length x → u < N.length ∧ ¬u ∈ T ++ [x]) := Lib.hid ⟨by rw [← hux.out]; exact hzz, by rw [← hzz, hux.out]; have := us_len HR.out N.length x; omega, hP.out.2.2.2⟩
          have hTx := Lib.hid hP.out.1
          have hksl : (ks.erase x).length ≤ 1000 := Nat.le_trans (List.length_erase_le) hnd.out.2
          have hksm : Hid (∀ i, i ∈ ks.erase x → i ≤ 1000000) := Lib.hid (fun i hi => by have := ((hP.out.2.1.mem i).1 hi).1; omega)
          generalize hks1 : ks.erase x = ks1 at *
          clear hpop hlen hhp hpp hP cu fu hta
          go_loopw [81] (fun s wq => ∃ (p : Nat) (vq : Value) (l : List Int) (f : Nat → Int), s = .int .i64 p ∧ p ≤ z ∧ Hid (TM w wq w.heap.size ks1 f q vq l bu N.length V U (.slice (some ⟨g1, 0, none⟩) (t + 1) cap1) (T ++ [x])) ∧ Hid (Lf N N.length (T ++ [x]) ((us N N.length x).drop p) ks1 f ∧ Sq N N.length (T ++ [x]) ((us N N.length x).drop p) l ∧ IsHeap l)) (fun s _ => z - (RowKit.intOf s).toNat)
          case atStart => exact ⟨0, vq1, l1, f, rfl, by omega, hT3, hS0⟩
          case round =>
            clear hT3 hS0
            obtain ⟨p, vq2, l2, f2, rfl, hp, hT, hS⟩ := hrel
            by_cases hpz : p < z
            · have hzl := hR.out.2.1
              have hrow := hT.out.urow hx (by rw [hzz]; omega) (a := ua) (c := uc) (by rw [hzz]; exact eu)
              rw [hzz] at hrow
              obtain ⟨rb, roff, rfl, hrb, hrc⟩ := hrow.at (by omega)
              have cr := hrc p hpz
              have hpl : p < (us N N.length x).length := by rw [hR.out.1]; exact hpz
              have hdrop := List.drop_eq_getElem_cons hpl
              have hgu : (iz (U x)).getD p 0 = (((us N N.length x)[p] : Nat) : Int) := by rw [hux.out]; simp [iz, List.getD, hpl]
              have hum := hR.out.2.2 _ (List.getElem_mem hpl)
              rw [hgu] at cr
              generalize (us N N.length x)[p] = u at *
              have hS1 := hS.out
              rw [hdrop] at hS1
              obtain ⟨huk, hK, hLf2⟩ := hS1.1.user hum
              obtain ⟨hq1, hq2⟩ := hS1.2.1.user hum
              have hKb : cnt N u (T ++ [x]) + List.count u ((us N N.length x).drop (p + 1)) ≤ 2000000 := by
                have h1 : cnt N u (T ++ [x]) ≤ (nd N u).length := List.countP_le_length
                have h2 := HR.out u
                rw [nd_len] at h1
                have h3 := List.count_le_length (a := u) (l := (us N N.length x).drop (p + 1))
                have h4 : ((us N N.length x).drop (p + 1)).length ≤ z := by rw [List.length_drop, hR.out.1]; omega
                omega
              generalize hKK : cnt N u (T ++ [x]) + List.count u ((us N N.length x).drop (p + 1)) = K at *
              have hfu : f2 u = (K : Int) + 1 := by omega
              have hu6 := hksm.out u huk
              have hlk := hT.out.map.look hu6 huk
              rw [hfu] at hlk
              obtain ⟨D, hown, hD⟩ := hT.out.map
              have HO := Lib.hid hown
              have hput := Lib.hid (fun w7 (h1 : w7.ownsMap Try.prog 3 (plainElem Try.prog 3) w.heap.size (ks1.length + 1) (D.put (ikey u) (.lit (.int .i64 (K : Int))))) (h2 : wr.grownBy w7 (some w.heap.size)) => hT.out.mapd h2 (LMap.of h1 (hD.putOld hu6 huk _)))
              have hwf : (Lit.int .i64 (K : Int)).wf = true := WalkArith.wf_i64 ⟨by omega, by omega⟩
              rw [hK] at hLf2
              have hpi : (p : Int) < z := by omega
              have hll := hS1.2.1.len
              have hnx : Hid (Lf N N.length (T ++ [x]) ((us N N.length x).drop (p + 1)) ks1 (upd f2 u (K : Int)) ∧ (K ≠ 0 → Sq N N.length (T ++ [x]) ((us N N.length x).drop (p + 1)) l2) ∧ (K = 0 → ∀ l', l'.Perm (l2 ++ [(u : Int)]) → Sq N N.length (T ++ [x]) ((us N N.length x).drop (p + 1)) l') ∧ IsHeap l2) := Lib.hid ⟨hLf2, hq1, hq2, hS1.2.2⟩
              clear hrow hrc hown hD hdrop hS1 hLf2 hq1 hq2 hK hfu hT hS hgu
              by_cases hk0 : K = 0
              · have hkz : ((K : Int) == 0) = true := by simp; omega
                have hk1 := Lib.hid hk0
                clear hk0 hKK
                go_wp2_with (first
                  | (at_mapUpdate; refine wpList_mapUpdate_own _ rfl _ _ _ 54 rfl 3 3 ilaw Try.underlying54 _ w.heap.size _ _ rfl HO.out (by unfold maxLen; omega) _ _ (ikey u) rfl rfl (key_int (by omega)) (.lit (.int .i64 (K : Int))) [] (plainElem_int Try.underlying3 hwf) ?_; intro w7 hown7 hgrow7; have hT7 := Lib.hid (hput.out _ hown7 hgrow7); have hlk7 := hT7.out.map.look hu6 huk; rw [upd_same] at hlk7; have hpu := Lib.hid (hpush_any (n := l2.length) hT7.out.que hnx.out.2.2.2 rfl (by omega) (u : Int)); clear hown7 hgrow7)
                  | (go_at_call 41; (with_reducible refine hpu.out.mono ?_); rintro e w10 ⟨rfl, v', l', hP2, hH2, hq⟩; have hT10 := Lib.hid (hT7.out.qstep hq); clear hq))
                exact ⟨⟨p + 1, _, l', _, by go_num, by omega, hT10, Lib.hid ⟨hnx.out.1, hnx.out.2.2.1 hk1.out _ hP2, hH2⟩⟩, by simp [RowKit.intOf]; omega⟩
              · have hkz : ((K : Int) == 0) = false := beq_eq_false_iff_ne.2 (by omega)
                go_wp2_with (at_mapUpdate; refine wpList_mapUpdate_own _ rfl _ _ _ 54 rfl 3 3 ilaw Try.underlying54 _ w.heap.size _ _ rfl HO.out (by unfold maxLen; omega) _ _ (ikey u) rfl rfl (key_int (by omega)) (.lit (.int .i64 (K : Int))) [] (plainElem_int Try.underlying3 hwf) ?_; intro w7 hown7 hgrow7; have hT7 := Lib.hid (hput.out _ hown7 hgrow7); have hlk7 := hT7.out.map.look hu6 huk; rw [upd_same] at hlk7; clear hown7 hgrow7)
                exact ⟨⟨p + 1, vq2, l2, _, by go_num, by omega, hT7, Lib.hid ⟨hnx.out.1, hnx.out.2.1 hk0, hnx.out.2.2.2⟩⟩, by simp [RowKit.intOf]; omega⟩
            · obtain rfl : p = z := by omega
              have hfull : (us N N.length x).drop p = [] := List.drop_eq_nil_of_le (by rw [hR.out.1]; omega)
              have hS1 := hS.out
              rw [hfull] at hS1
              have hS2 := Lib.hid hS1
              clear hS1 hS
              go_wp2
              refine ⟨⟨T ++ [x], vq2, l2, ks1, f2, some ⟨g1, 0, none⟩, cap1, ?_, ?_, Lib.hid ⟨hTx.out, hS2.out⟩⟩, ?_⟩
              · simp [hz]
              · simpa [hz] using hT
              · simp [lenV]; omega
end Go.Proofs.Ytocfchgkfaogdaa
