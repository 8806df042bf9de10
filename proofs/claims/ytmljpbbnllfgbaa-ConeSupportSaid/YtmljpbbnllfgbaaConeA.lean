/-
  check; what leans: the walks.
-/
import Derived.Test.YtmljpbbnllfgbaaConeM
import Derived.Test.YtmljpbbnllfgbaaAigAt
import Derived.Deep.RegionLaw
import Derived.Deep.CutBlock
import Derived.Deep.DeepCutAuto
namespace Go.Proofs.Ytmljpbbnllfgbaa
open Go.RowKit Go.Maps Num
set_option maxRecDepth 100000

/-- What check tells of a graph's literals. -/
def chkV (G : Gr) (l : List Int) : Int := if (∀ x ∈ l, nodeN x < G.nodes.length) then 0 else 1
theorem chk_ok {G : Gr} {l : List Int} (h : AllThere G l) : chkV G l = 0 := if_pos (fun x hx => nodeN_lt (h x hx))
theorem ccheck_any {w : World} {p : Pl} {G : Gr} (hG : Is w p G) (hW : Wf G) (hm : G.nodes.length ≤ 200000) {a : Option Addr} {n c : Nat} {l : List Int} (hs : Row .u32 w a n l) (hl : ∀ x ∈ l, IsLit x) :
    Calls Try.prog 48 #[.pointer (some ⟨p.b, 0, none⟩), .slice a n c] w fun e w' => e = .returned (.int .i64 (chkV G l)) ∧ Below w.heap.size w w' := by
  have hno := Lib.hid (nodes_any hG.lay hW.pos)
  have h0 := hW.pos
  have HS := Lib.hid hs
  have hle := hs.le
  have hlen := hs.len
  have hnode := Lib.hid (fun j (hj : j < n) (w2 : World) => node_any (l.getD j 0) (hl _ (by simp [List.getD, show j < l.length by omega])) w2)
  have hint := Lib.hid (fun j (hj : j < n) => nodeN_int (hl (l.getD j 0) (by simp [List.getD, show j < l.length by omega])))
  have hall := Lib.hid (fun (h : ∀ j, j < n → nodeN (l.getD j 0) < G.nodes.length) => show chkV G l = 0 from if_pos (fun x hx => by
    obtain ⟨j, hj, rfl⟩ := List.getElem_of_mem hx
    have := h j (by omega)
    simpa [List.getD, hj] using this))
  have hbad := Lib.hid (fun j (hj : j < n) (h : ¬ nodeN (l.getD j 0) < G.nodes.length) => show chkV G l = 1 from if_neg (fun hh => h (hh _ (by simp [List.getD, show j < l.length by omega]))))
  generalize G.nodes.length = k at *
  generalize chkV G l = V at *
  have hk0 : ((k : Int) == 0) = false := beqf (by omega)
  clear hG hW hs hl hlen
  go_enter Try.func48, Try.ntmps48
  go_wp2_with (go_at_call 8; (with_reducible refine hno.out.mono ?_); rintro e w2 ⟨rfl, rfl⟩)
  go_loopw [14] (fun s wr => ∃ j : Nat, j ≤ n ∧ s = .int .i64 j ∧ Hid (w = wr) ∧ Hid (∀ i, i < j → nodeN (l.getD i 0) < k)) (fun s _ => n - (intOf s).toNat)
  case atStart => exact ⟨0, Nat.zero_le _, rfl, Lib.hid rfl, Lib.hid (fun i hi => by omega)⟩
  case round =>
    obtain ⟨j, hj, rfl, hwr, hd⟩ := hrel
    have hwr2 := hwr.out
    subst hwr2
    clear hwr
    by_cases hlt : j < n
    · obtain ⟨b, off, rfl, hb, hcell⟩ := HS.out.at (by omega)
      have hcj := hcell j hlt
      have hnj := Lib.hid (hnode.out j hlt)
      have hij := hint.out j hlt
      have hd2 := Lib.hid (fun (h : nodeN (l.getD j 0) < k) i (hi : i < j + 1) => show nodeN (l.getD i 0) < k from by
        rcases Nat.lt_succ_iff_lt_or_eq.1 hi with h1 | rfl
        · exact hd.out i h1
        · exact h)
      have hbj := Lib.hid (hbad.out j hlt)
      generalize hx : nodeN (l.getD j 0) = X at *
      rw [← hij] at hnj
      generalize hy : l.getD j 0 = y at *
      clear hcell hij
      by_cases hX : X < k
      · have hg : decide ((k : Int) ≤ X) = false := by simp; omega
        go_wp2_with (go_at_call 22; (with_reducible refine (hnj.out _).mono ?_); rintro e w2 ⟨rfl, rfl⟩)
        go_roundw
        case rel => exact ⟨j + 1, by omega, by go_num, Lib.hid trivial, Lib.hid (hd2.out hX)⟩
        case measure => simp [intOf]; omega
      · have hg : decide ((k : Int) ≤ X) = true := by simp; omega
        go_wp2_with (go_at_call 22; (with_reducible refine (hnj.out _).mono ?_); rintro e w2 ⟨rfl, rfl⟩)
        go_ret
        exact ⟨by rw [hbj.out hX]; rfl, Below.refl _ _⟩
    · obtain rfl : j = n := by omega
      go_wp2
      go_ret
      exact ⟨by rw [hall.out hd.out]; rfl, Below.refl _ _⟩

theorem kept_set (w : World) (g o : Nat) (v : Value) : Kept (fun k => k = g) w (w.setCell ⟨g, o, none⟩ v).drew := by
  refine ⟨rfl, rfl, rfl, by simp [World.setCell], fun k _ hn => ?_⟩
  exact Below.heap_setCell _ _ _ _ hn
theorem bool_set (bs : List Bool) (j : Nat) (b : Bool) : (bs.map Value.bool).set j (.bool b) = (bs.set j b).map Value.bool := by rw [List.map_set]
theorem markL_succ (bs : List Bool) (l : List Int) (j : Nat) (h : j < l.length) : markL bs (l.take (j + 1)) = (markL bs (l.take j)).set (nodeN (l.getD j 0)) true := by
  unfold markL
  rw [List.take_add_one, List.foldl_append, show l[j]?.toList = [l.getD j 0] by simp [List.getD, h]]
  rfl

set_option maxHeartbeats 1000000 in
theorem lean1_any {w : World} {q g m base : Nat} {bs : List Bool} (hbox : w.cell? ⟨q, 0, none⟩ = some (.slice (some ⟨g, 0, none⟩) m m)) (ho : w.ownsRow base 4 1 (.slice (some ⟨g, 0, none⟩) m m) m (bs.map Value.bool)) (hqg : q ≠ g)
    {a : Option Addr} {n c : Nat} {l : List Int} (hs : Row .u32 w a n l) (ha : ∀ x, a = some x → 0 < n → x.block ≠ g) (hl : ∀ x ∈ l, IsLit x ∧ nodeN x < m) :
    Calls Try.prog 79 #[.slice a n c, .pointer (some ⟨q, 0, none⟩)] w fun e w' => (∃ v, e = .returned v) ∧ w'.ownsRow base 4 1 (.slice (some ⟨g, 0, none⟩) m m) m ((markL bs l).map Value.bool) ∧ Kept (fun k => k = g) w w' := by
  have HS := Lib.hid hs
  have hle := hs.le
  have hlen := hs.len
  have hfull : Hid (l.take n = l) := Lib.hid (List.take_of_length_le (by omega))
  have hnode := Lib.hid (fun j (hj : j < n) (w2 : World) => node_any (l.getD j 0) (hl _ (by simp [List.getD, show j < l.length by omega])).1 w2)
  have hint := Lib.hid (fun j (hj : j < n) => nodeN_int (hl (l.getD j 0) (by simp [List.getD, show j < l.length by omega])).1)
  have hlm := Lib.hid (fun j (hj : j < n) => (hl (l.getD j 0) (by simp [List.getD, show j < l.length by omega])).2)
  have hsu := Lib.hid (fun j (hj : j < n) => markL_succ bs l j (by omega))
  have HA := Lib.hid ha
  have hO := Lib.hid ho
  have hql : q < w.heap.size := World.block_lt_of_cell? w _ hbox
  have hgl := own_lt ho
  have hml : bs.length = m := by have := ho.1; simpa using this
  have hmk := Lib.hid (fun j => show (markL bs (l.take j)).length = m from (markL_len _ _).trans hml)
  have hst : Hid (markL bs (l.take 0) = bs) := Lib.hid rfl
  clear hs hl hlen ha ho hml
  go_enter Try.func79, Try.ntmps79
  go_wp2
  go_loopw [7] (fun s wr => ∃ j : Nat, j ≤ n ∧ s = .int .i64 j ∧ Hid (wr.ownsRow base 4 1 (.slice (some ⟨g, 0, none⟩) m m) m ((markL bs (l.take j)).map Value.bool)) ∧ Hid (Kept (fun k => k = g) w wr)) (fun s _ => n - (intOf s).toNat)
  case atStart => exact ⟨0, Nat.zero_le _, rfl, by rw [hst.out]; exact hO, Lib.hid (Kept.refl _ _)⟩
  case round =>
    obtain ⟨j, hj, rfl, hor, hK⟩ := hrel
    by_cases hlt : j < n
    · obtain ⟨b, off, rfl, hb, hcell⟩ := HS.out.at (by omega)
      have hbg := HA.out _ rfl (by omega)
      have hcj := (kept_cell hK.out hb hbg (o := off + j)).1.trans (hcell j hlt)
      have hqc := (kept_cell hK.out hql hqg (o := 0)).1.trans hbox
      have hnj := Lib.hid (hnode.out j hlt)
      have hij := hint.out j hlt
      have hxm := hlm.out j hlt
      have hmj := hmk.out j
      have hsj := hsu.out j hlt
      generalize nodeN (l.getD j 0) = X at *
      rw [← hij] at hnj
      generalize l.getD j 0 = y at *
      generalize markL bs (l.take j) = cs at *
      have hcl := hor.out.cellAt (j := X) (by simpa [hmj] using hxm)
      have hsome : (wr.cell? ⟨g, X, none⟩).isSome = true := by rw [hcl]; simp [hmj, hxm]
      obtain ⟨u, hu⟩ := Option.isSome_iff_exists.1 hsome
      have hfr := hor.out.frozenAt X
      have hst2 := Lib.hid (hor.out.stored X (.bool true))
      have hKr := Lib.hid (hK.out)
      clear hcell hij hK hcl hsome
      go_wp2
      go_region_law (first | (go_simp; go_at_call 22; (with_reducible refine (hnj.out _).mono ?_); rintro e w4 ⟨rfl, rfl⟩))
      go_wp2
      all_goals refine ⟨⟨j + 1, by omega, by go_num, ?_, ?_⟩, by simp [intOf]; omega⟩
      all_goals first
        | exact Lib.hid (hKr.out.trans (F' := fun k => k = g) (kept_set _ _ _ _) (fun x hx => .inl hx))
        | (have e := hst2.out.1; rw [bool_set, ← hsj] at e; exact Lib.hid e.drew)
    · obtain rfl : j = n := by omega
      rw [hfull.out] at hor
      go_wp2
      exact bodyPost_end (v := .tuple #[]) (by kernel_rfl) rfl ⟨⟨_, rfl⟩, hor.out, hK.out⟩

theorem info_bool : (Try.prog.info? 4).map (fun i => (i.zero, i.size, i.bytes)) = some (some (.bool false), 1, 1) := by kernel_rfl
theorem made_false (n : Nat) : (madeCells (Value.bool false).cells (n * 1)).toList = (List.replicate n false).map Value.bool := by
  apply List.ext_getElem
  · simp [madeCells]
  · intro i h1 h2; simp [madeCells, Value.cells, Nat.mod_one]

/-- What leaning holds along the way. -/
structure LnS (w wr : World) (q m : Nat) (bs : List Bool) : Prop where
  below : Below w.heap.size w wr
  lt : w.heap.size < q
  box : wr.cell? ⟨q, 0, none⟩ = some (.slice (some ⟨w.heap.size, 0, none⟩) m m)
  own : wr.ownsRow w.heap.size 4 1 (.slice (some ⟨w.heap.size, 0, none⟩) m m) m (bs.map Value.bool)
theorem LnS.step {w wr w2 : World} {q m : Nat} {bs : List Bool} (h : LnS w wr q m bs) (hb : Below wr.heap.size wr w2) : LnS w w2 q m bs :=
  ⟨nextw h.below hb, h.lt, stepc hb (World.block_lt_of_cell? wr _ h.box) h.box, own_below h.own hb⟩
theorem LnS.call {w wr : World} {q m : Nat} {bs : List Bool} (h : LnS w wr q m bs) {a : Option Addr} {n c : Nat} {l : List Int} (hs : Row .u32 wr a n l) (ha : ∀ x, a = some x → 0 < n → x.block ≠ w.heap.size) (hl : ∀ x ∈ l, IsLit x ∧ nodeN x < m) :
    Calls Try.prog 79 #[.slice a n c, .pointer (some ⟨q, 0, none⟩)] wr fun e w' => (∃ v, e = .returned v) ∧ LnS w w' q m (markL bs l) :=
  have hq := h.lt
  (lean1_any h.box h.own (by omega) hs ha hl).mono (fun e w' ⟨he, ho, hK⟩ => ⟨he, h.below.trans (hK.below (fun k hk => by omega) h.below.size), hq, by rw [(kept_cell hK (World.block_lt_of_cell? wr _ h.box) (show ¬ q = w.heap.size by omega)).1]; exact h.box, ho⟩)
theorem LnS.false {w wr : World} {q m : Nat} {bs : List Bool} (h : LnS w wr q m bs) (hm : 0 < m) (hl : bs.length = m) : (wr.cell? ⟨w.heap.size, 0, none⟩).isSome = true := by
  rw [h.own.cellAt (j := 0) (by simpa [hl] using hm)]; simp [hl, hm]

set_option maxHeartbeats 1000000 in
theorem leaning_any {w : World} {p : Pl} {G : Gr} (hG : Is w p G) (hW : Wf G) (hm : G.nodes.length ≤ 200000) {a : Option Addr} {n c : Nat} {l : List Int} (hs : Row .u32 w a n l) (hl : AllThere G l) :
    Calls Try.prog 70 #[.pointer (some ⟨p.b, 0, none⟩), .slice a n c] w fun e w' => ∃ (g m : Nat) (bs : List Bool), e = .returned (.slice (some ⟨g, 0, none⟩) m m) ∧ w'.ownsRow w.heap.size 4 1 (.slice (some ⟨g, 0, none⟩) m m) m (bs.map Value.bool) ∧ bs.length = m ∧ m ≤ G.nodes.length ∧ Leant G l bs ∧ Below w.heap.size w w' := by
  have HG := Lib.hid hG
  have HS := Lib.hid hs
  have HL := Lib.hid hl
  have HW := Lib.hid hW
  have hpos := hW.pos
  have hle := hs.le
  have hlen := hs.len
  have hnode := Lib.hid (fun j (hj : j < n) (w2 : World) => node_any (l.getD j 0) (hl _ (by simp [List.getD, show j < l.length by omega])).1 w2)
  have hint := Lib.hid (fun j (hj : j < n) => nodeN_int (hl (l.getD j 0) (by simp [List.getD, show j < l.length by omega])).1)
  have hlm := Lib.hid (fun j (hj : j < n) => nodeN_lt (hl (l.getD j 0) (by simp [List.getD, show j < l.length by omega])))
  have hall := Lib.hid (fun m (h : ∀ j, j < n → nodeN (l.getD j 0) ≤ m) => show ∀ x ∈ l, nodeN x ≤ m from fun x hx => by
    obtain ⟨j, hj, rfl⟩ := List.getElem_of_mem hx
    have := h j (by omega)
    simpa [List.getD, hj] using this)
  have hab := Lib.hid (fun x (hx : a = some x) (hn : 0 < n) => show x.block < w.heap.size from by
    obtain ⟨b, off, hb, hbl, -⟩ := hs.at hn
    rw [hx] at hb; cases hb; exact hbl)
  obtain ⟨i0, hi, hz0, hz1, hz2⟩ := info_parts info_bool
  clear hG hW hs hl hlen
  go_enter Try.func70, Try.ntmps70
  go_upto_block 0 with fail
  go_cut [5] (fun s wx => ∃ m : Nat, s = .int .i64 m ∧ m < G.nodes.length ∧ Hid (w = wx) ∧ Hid (∀ j, j < n → nodeN (l.getD j 0) ≤ m))
  case first =>
    go_wp2
    go_loopw [5, 16] (fun s5 s wr => ∃ j m : Nat, j ≤ n ∧ s = .int .i64 j ∧ s5 = .int .i64 m ∧ m < G.nodes.length ∧ Hid (w = wr) ∧ Hid (∀ i, i < j → nodeN (l.getD i 0) ≤ m)) (fun _ s _ => n - (intOf s).toNat)
    case atStart => exact ⟨0, 0, Nat.zero_le _, rfl, rfl, hpos, Lib.hid rfl, Lib.hid (fun i hi => by omega)⟩
    case round =>
      obtain ⟨j, m, hj, rfl, rfl, hmk, hwr, hd⟩ := hrel
      have hwr2 := hwr.out
      subst hwr2
      clear hwr
      by_cases hlt : j < n
      · obtain ⟨b, off, rfl, hb, hcell⟩ := HS.out.at (by omega)
        have hcj := hcell j hlt
        have hnj := Lib.hid (hnode.out j hlt)
        have hij := hint.out j hlt
        have hxm := hlm.out j hlt
        have hd2 := Lib.hid (fun M (h1 : m ≤ M) (h : nodeN (l.getD j 0) ≤ M) i (hi : i < j + 1) => show nodeN (l.getD i 0) ≤ M from by
          rcases Nat.lt_succ_iff_lt_or_eq.1 hi with h1 | rfl
          · have := hd.out i h1; omega
          · exact h)
        generalize hx : nodeN (l.getD j 0) = X at *
        rw [← hij] at hnj
        generalize hy : l.getD j 0 = y at *
        clear hcell hij
        by_cases hX : m < X
        · have hmax : max (m : Int) (X : Int) = (X : Int) := by omega
          go_wp2_with (go_at_call 22; (with_reducible refine (hnj.out _).mono ?_); rintro e w2 ⟨rfl, rfl⟩)
          exact ⟨⟨j + 1, X, by omega, by go_num, rfl, hxm, Lib.hid trivial, Lib.hid (hd2.out X (by omega) (Nat.le_refl _))⟩, by simp [intOf]; omega⟩
        · have hmax : max (m : Int) (X : Int) = (m : Int) := by omega
          go_wp2_with (go_at_call 22; (with_reducible refine (hnj.out _).mono ?_); rintro e w2 ⟨rfl, rfl⟩)
          exact ⟨⟨j + 1, m, by omega, by go_num, rfl, hmk, Lib.hid trivial, Lib.hid (hd2.out m (Nat.le_refl _) (by omega))⟩, by simp [intOf]; omega⟩
      · obtain rfl : j = n := by omega
        go_wp2
        go_meet
        exact ⟨m, rfl, hmk, Lib.hid rfl, hd⟩
  case rest =>
    obtain ⟨m, rfl, hmk, hwr, hd⟩ := hcut
    have hwr2 := hwr.out
    subst hwr2
    clear hwr hlm hint hnode
    have hln : Hid (∀ x ∈ l, nodeN x ≤ m) := Lib.hid (hall.out m hd.out)
    have hLM : Hid (∀ x ∈ l, IsLit x ∧ nodeN x < m + 1) := Lib.hid (fun x hx => ⟨(HL.out x hx).1, by have := hln.out x hx; omega⟩)
    have hstart := Lib.hid (Mk.start HW.out (l := l) (m := m + 1) (fun x hx => by have := hln.out x hx; omega))
    have hfalse := Lib.hid (made_false (m + 1))
    have hfar : Hid (∀ x, a = some x → 0 < n → x.block ≠ w.heap.size) := Lib.hid (fun x hx hn => by have := hab.out x hx hn; omega)
    clear hall hd
    go_wp2_with (first
      | (at_make; refine wpList_make_full _ rfl _ _ 114 rfl w.heap.size 4 i0 (.bool false) 1 Try.underlying114 hi hz0 hz1 .i64 .i64 (m + 1) (m + 1) (m + 1) rfl rfl rfl rfl (by rw [hz2]; omega) (by unfold maxLen; omega) (Nat.le_refl _) ?_; intro w1 hown hg; have hB1 : Below w.heap.size w w1 := (Below.refl w.heap.size w).grown hg (Nat.le_refl _) (fun _ h => by cases h); have hq1 : w.heap.size < w1.heap.size := own_lt hown; rw [hfalse.out] at hown; have hL1 : Hid (LnS w (w1.alloc (.cells #[.slice (some ⟨w.heap.size, 0, none⟩) (m + 1) (m + 1)] 114)) w1.heap.size (m + 1) (List.replicate (m + 1) false)) := Lib.hid ⟨hB1.alloc hB1.size _, hq1, by simp [go_sem], hown.alloc _⟩; have hcl := Lib.hid (hL1.out.call (HS.out.step hL1.out.below) hfar.out hLM.out (c := c)); generalize hq : w1.heap.size = q at *)
      | (go_at_call 79; (with_reducible refine hcl.out.mono ?_); rintro e w3 ⟨⟨v, rfl⟩, hL3⟩; have hL3 := Lib.hid hL3))
    obtain ⟨w4, rfl⟩ : ∃ w4 : World, w4 = w3 := ⟨_, rfl⟩
    clear hcl hL1 hown hg hB1 hfalse hq hi hz0 hz1 hz2
    go_loopw [10] (fun s wr => ∃ (k : Nat) (bs : List Bool), k ≤ m ∧ s = .int .i64 k ∧ Hid (Mk G l (m + 1) k bs) ∧ Hid (LnS w wr q (m + 1) bs)) (fun s _ => (intOf s).toNat)
    case atStart => exact ⟨m, _, Nat.le_refl _, rfl, hstart, hL3⟩
    case round =>
      clear hL3 hstart
      obtain ⟨k, bs, hk, rfl, hMk, hLr⟩ := hrel
      have hbox := hLr.out.box
      by_cases hk0 : 0 < k
      · have hgt := Lib.hid (Gate_any (HG.out.below hLr.out.below) HW.out hm (j := k) (by omega))
        have hcl := hLr.out.own.cellAt (j := k) (by simp [hMk.out.len]; omega)
        have hclk : wr.cell? ⟨w.heap.size, k, none⟩ = some (.bool (bs.getD k false)) := by
          rw [hcl, List.getElem?_map]
          have := hMk.out.len
          simp [List.getD, show k < bs.length by omega]
        have hskip : Hid (((nodeAt G k).gate && bs.getD k false) = false → Mk G l (m + 1) (k - 1) bs) := Lib.hid (by
          obtain ⟨k', rfl⟩ : ∃ k', k = k' + 1 := ⟨k - 1, by omega⟩
          exact hMk.out.skip)
        have hmore : Hid ((nodeAt G k).gate = true → bs.getD k false = true → Mk G l (m + 1) (k - 1) (markL bs [(nodeAt G k).a, (nodeAt G k).b]) ∧ ∀ x ∈ [(nodeAt G k).a, (nodeAt G k).b], IsLit x ∧ nodeN x < m + 1) := Lib.hid (by
          intro hg hb
          obtain ⟨ta, tb, la, lb, -⟩ := gate_lits HW.out hg
          obtain ⟨k', rfl⟩ : ∃ k', k = k' + 1 := ⟨k - 1, by omega⟩
          refine ⟨hMk.out.more HW.out (by omega) hg hb, fun x hx => ?_⟩
          simp at hx
          rcases hx with rfl | rfl
          · exact ⟨ta.1, by omega⟩
          · exact ⟨tb.1, by omega⟩)
        have hsz := hLr.out.below.size
        have hq0 := hLr.out.lt
        have hql : q < wr.heap.size := World.block_lt_of_cell? wr _ hbox
        clear hcl
        generalize (nodeAt G k).gate = ga at *
        generalize (nodeAt G k).a = na at *
        generalize (nodeAt G k).b = nb at *
        generalize hbk : bs.getD k false = bk at *
        have hkm : k < m + 1 := by omega
        have hkz : decide (0 < (k : Int)) = true := by simp; omega
        cases ga with
        | false =>
          go_wp2_with (go_at_call 17; (with_reducible refine hgt.out.mono ?_); rintro e w5 ⟨rfl, hB5⟩; have hL5 := Lib.hid (hLr.out.step hB5); have hbox5 := hL5.out.box; have hcl5 := stepc hB5 (by omega) hclk)
          exact ⟨⟨k - 1, bs, by omega, by go_num, Lib.hid (hskip.out rfl), hL5⟩, by simp [intOf]; omega⟩
        | true =>
          cases bk with
          | false =>
            go_wp2_with (go_at_call 17; (with_reducible refine hgt.out.mono ?_); rintro e w5 ⟨rfl, hB5⟩; have hL5 := Lib.hid (hLr.out.step hB5); have hbox5 := hL5.out.box; have hcl5 := stepc hB5 (by omega) hclk)
            exact ⟨⟨k - 1, bs, by omega, by go_num, Lib.hid (hskip.out rfl), hL5⟩, by simp [intOf]; omega⟩
          | true =>
            have hmm := Lib.hid (hmore.out rfl rfl)
            go_wp2_with (first
              | (go_at_call 17; (with_reducible refine hgt.out.mono ?_); rintro e w5 ⟨rfl, hB5⟩; have hL5 := Lib.hid (hLr.out.step hB5); have hbox5 := hL5.out.box; have hcl5 := stepc hB5 (by omega) hclk; have hsz5 := hL5.out.below.size; have hql5 : q < w5.heap.size := World.block_lt_of_cell? w5 _ hbox5; have hc5 := Lib.hid ((hL5.out.step ((Below.refl _ _).alloc (Nat.le_refl _) (.cells #[.int .u32 na, .int .u32 nb] 40))).call (c := 2) (row2 w5 na nb 40) (fun x hx _ => by cases hx; show w5.heap.size ≠ w.heap.size; omega) hmm.out.2))
              | (go_at_call 79; (with_reducible refine hc5.out.mono ?_); rintro e w6 ⟨⟨v6, rfl⟩, hL6⟩; have hL6 := Lib.hid hL6))
            exact ⟨⟨k - 1, _, by omega, by go_num, Lib.hid hmm.out.1, hL6⟩, by simp [intOf]; omega⟩
      · obtain rfl : k = 0 := by omega
        have hsome := hLr.out.false (by omega) hMk.out.len
        obtain ⟨u, hu⟩ := Option.isSome_iff_exists.1 hsome
        have hfr := hLr.out.own.frozenAt 0
        have hst2 := Lib.hid (hLr.out.own.stored 0 (.bool false))
        have hq0 := hLr.out.lt
        have hql : q < wr.heap.size := World.block_lt_of_cell? wr _ hbox
        go_wp2
        go_ret
        refine ⟨w.heap.size, m + 1, bs.set 0 false, rfl, ?_, by rw [List.length_set]; exact hMk.out.len, by omega, hMk.out.done HW.out, hLr.out.below.setCell (Nat.le_refl _) _⟩
        have e := hst2.out.1
        rw [bool_set] at e
        exact e
end Go.Proofs.Ytmljpbbnllfgbaa
