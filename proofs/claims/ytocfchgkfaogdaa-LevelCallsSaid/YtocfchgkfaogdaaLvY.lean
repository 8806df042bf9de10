/-
  Layers; rows of rows that a call has made itself.
-/
import Derived.Test.YtocfchgkfaogdaaLvD
namespace Go.Proofs.Ytocfchgkfaogdaa
open Go.RowKit Go.Maps
set_option maxRecDepth 100000

structure RW (w0 w : World) (bu n : Nat) (V : Nat → Value) (U : Nat → List Nat) : Prop where
  low : Below w0.heap.size w0 w
  ub : w.ownsRow w0.heap.size 23 1 (.slice (some ⟨bu, 0, none⟩) n n) n ((List.range n).map V)
  ur : ∀ k, k < n → w.ownsRow w0.heap.size 3 1 (V k) (U k).length (ints (iz (U k)))
  auu : ∀ k j, k < n → j < n → k ≠ j → ∀ b, (V k).ownBlock = some b → (V j).ownBlock ≠ some b
section
variable {w0 w w' : World} {bu n : Nat} {V : Nat → Value} {U : Nat → List Nat}
theorem RW.ubl (h : RW w0 w bu n V U) : ∃ cur, w.heap[bu]? = some (.cells cur 23 (0, 0)) := own_type h.ub (k := bu) rfl
theorem RW.lt (h : RW w0 w bu n V U) : bu < w.heap.size := own_lt h.ub
theorem RW.ubg (h : RW w0 w bu n V U) : w0.heap.size ≤ bu := own_ge h.ub bu rfl
theorem RW.cell (h : RW w0 w bu n V U) {k : Nat} (hk : k < n) : w.cell? ⟨bu, k, none⟩ = some (V k) ∧ w.frozen? ⟨bu, k, none⟩ = false := by
  refine ⟨?_, h.ub.frozenAt k⟩
  rw [h.ub.cellAt k (by omega)]
  simp [hk]
theorem RW.form (h : RW w0 w bu n V U) {k : Nat} (hk : k < n) : ∃ a c, V k = .slice a (U k).length c := own_slice (h.ur k hk)
theorem RW.ne (h : RW w0 w bu n V U) {k : Nat} (hk : k < n) : some bu ≠ (V k).ownBlock := fun e => by
  obtain ⟨cur, hc⟩ := own_type (h.ur k hk) e.symm
  obtain ⟨cur2, hc2⟩ := h.ubl
  exact absurd (kinds hc hc2) (by decide)
theorem RW.user (h : RW w0 w bu n V U) {k : Nat} (hkn : k < n) {v : Value} {z : Nat} (ev : V k = v) (ez : (U k).length = z) (w2 w1 : World) (g1 cap1 : Nat) (x : Nat) (hb : Below w.heap.size w w2) (hown : w1.ownsRow w0.heap.size 3 1 (.slice (some ⟨g1, 0, none⟩) (z + 1) cap1) (z + 1) (ints (iz (U k)) ++ [.int .i64 (x : Int)]))
    (hg : w2.grownBy w1 v.ownBlock) (hat : v.ownBlock = some g1 ∨ g1 = w2.heap.size) :
    RW w0 (w1.setCell ⟨bu, k, none⟩ (.slice (some ⟨g1, 0, none⟩) (z + 1) cap1)) bu n (upd V k (.slice (some ⟨g1, 0, none⟩) (z + 1) cap1)) (upd U k (U k ++ [x])) := by
  subst ev ez
  have hrk := h.ur k hkn
  have hk1 := grown_kept hb hg
  have hs := hb.size
  have hbu := own_lt h.ub
  generalize hv' : (Value.slice (some ⟨g1, 0, none⟩) ((U k).length + 1) cap1) = v' at *
  have hv'b : v'.ownBlock = some g1 := by rw [← hv']; rfl
  have hbk : ∀ b, (Value.slice (some ⟨bu, 0, none⟩) n n).ownBlock = some b → (V k).ownBlock ≠ some b := fun b hb e => by
    obtain ⟨cur, hc⟩ := own_type h.ub hb
    obtain ⟨cur2, hc2⟩ := own_type hrk e
    exact absurd (kinds hc hc2) (by decide)
  have hgb : g1 ≠ bu := by
    rcases hat with e | e
    · rintro rfl; exact hbk _ rfl e
    · omega
  have hk2 : Kept (fun b => b = bu) w1 (w1.setCell ⟨bu, k, none⟩ v') := ⟨rfl, rfl, rfl, by simp [World.setCell], fun b _ hn => Below.heap_setCell _ _ _ _ hn⟩
  have hk : Kept (fun b => b = bu ∨ (V k).ownBlock = some b) w (w1.setCell ⟨bu, k, none⟩ v') := (hk1.wide (fun b e => .inr e)).trans hk2 (fun b e => .inl (.inl e))
  have notbu : ∀ {base size n2 : Nat} {v : Value} {xs : List Value}, w.ownsRow base 3 size v n2 xs → ∀ b, v.ownBlock = some b → b ≠ bu := fun hr b hb e => by
    obtain ⟨cur, hc⟩ := own_type hr hb
    obtain ⟨cur2, hc2⟩ := h.ubl
    subst e
    exact absurd (kinds hc hc2) (by decide)
  have row : ∀ {base size n2 : Nat} {v : Value} {xs : List Value}, w.ownsRow base 3 size v n2 xs → (∀ b, v.ownBlock = some b → (V k).ownBlock ≠ some b) → (w1.setCell ⟨bu, k, none⟩ v').ownsRow base 3 size v n2 xs := fun hr hne => own_keptF hr hk (fun b e hf => by
    rcases hf with hf | hf
    · exact notbu hr b e hf
    · exact hne b e hf)
  have apart : ∀ {base size n2 : Nat} {v : Value} {xs : List Value}, w.ownsRow base 3 size v n2 xs → (∀ b, v.ownBlock = some b → (V k).ownBlock ≠ some b) → ∀ b, v.ownBlock = some b → v'.ownBlock ≠ some b := fun hr hne b hb2 e => by
    obtain rfl : g1 = b := by rw [hv'b] at e; simpa using e
    rcases hat with h1 | h1
    · exact hne _ hb2 h1
    · have := own_blt hr hb2; omega
  have hub1 : w1.ownsRow w0.heap.size 23 1 (.slice (some ⟨bu, 0, none⟩) n n) n ((List.range n).map V) := own_keptF h.ub hk1 (fun b e hf => hbk b e hf)
  have hvk : ∀ j, j ≠ k → upd V k v' j = V j := fun j hj => upd_other _ _ hj
  refine ⟨h.low.trans (hk.below (fun b e => by rcases e with rfl | e; exact h.ubg; exact own_ge hrk b e) h.low.size), ?_, fun j hj => ?_, fun i j hi hj hij b => ?_⟩
  · rw [map_upd]; exact (hub1.stored k v').1
  · by_cases e : j = k
    · subst e
      rw [upd_same, upd_same, iz_snoc, List.length_append]
      exact ownsRow_setCell_other hown (by rw [hv'b]; simpa using hgb) _
    · rw [upd_other _ _ e, upd_other _ _ e]
      exact row (h.ur j hj) (h.auu j k hj hkn e)
  · by_cases ei : i = k
    · subst ei
      have ej : j ≠ i := fun e => hij e.symm
      rw [upd_same, hvk j ej]
      intro e1 e2
      exact apart (h.ur j hj) (h.auu j i hj hkn ej) b e2 e1
    · rw [hvk i ei]
      by_cases ej : j = k
      · subst ej
        rw [upd_same]
        exact apart (h.ur i hi) (h.auu i j hi hkn ei) b
      · rw [hvk j ej]; exact h.auu i j hi hj hij b
theorem own_cap {w : World} {base e n c : Nat} {a : Option Addr} {xs : List Value} (h : w.ownsRow base e 1 (.slice a n c) n xs) : n ≤ c ∧ c ≤ 9223372036854775807 := by
  rcases h.2 with ⟨h0, h1⟩ | ⟨g, cap, cur, hv, _, _, h2, h3, _⟩
  · simp at h0; obtain ⟨-, rfl, rfl⟩ := h0; omega
  · simp at hv; obtain ⟨-, rfl⟩ := hv; unfold maxLen at h3; omega
theorem RW.rr (h : RW w0 w bu n V U) (hn : n ≤ 1000000) (hU : ∀ k, k < n → (U k).length ≤ 1000000) : RR w (some ⟨bu, 0, none⟩) n ((List.range n).map (fun k => iz (U k))) := by
  refine ⟨by simp, by omega, .inr ⟨bu, 0, rfl, h.lt, fun i hi => ?_⟩⟩
  obtain ⟨a, c, e⟩ := h.form hi
  have hr := h.ur i hi
  rw [e] at hr
  have hg : ((List.range n).map (fun k => iz (U k))).getD i [] = iz (U i) := by simp [List.getD, hi]
  rw [hg, iz_len, Nat.zero_add, (h.cell hi).1, e]
  obtain ⟨h1, h2⟩ := own_cap hr
  have := hU i hi
  exact ⟨a, c, rfl, h1, h2, Row.of_own hr (iz_len _) (by omega)⟩
end
theorem rw_new {w w1 : World} {bu n : Nat} (hb : Below w.heap.size w w1) (hown : w1.ownsRow w.heap.size 23 1 (.slice (some ⟨bu, 0, none⟩) n n) n (madeCells (Value.slice none 0 0).cells (n * 1)).toList) : RW w w1 bu n (fun _ => .slice none 0 0) (fun _ => []) := by
  rw [made_nil] at hown
  exact ⟨hb, hown, fun k _ => own_nil _ _ _, fun k j _ _ _ b e => by simp [Value.ownBlock] at e⟩

def grt (d : List Int) : Int := d.foldl max (-1)
/-- The things of depth v, of the first j. -/
def lay (d : List Int) (j v : Nat) : List Nat := (List.range j).filter (fun i => d.getD i 0 == (v : Int))
def layL (d : List Int) : List (List Int) := (List.range (grt d + 1).toNat).map (fun v => iz (lay d d.length v))
theorem lay_succ (d : List Int) (j v : Nat) : lay d (j + 1) v = if d.getD j 0 = (v : Int) then lay d j v ++ [j] else lay d j v := by
  unfold lay
  rw [List.range_succ, List.filter_append]
  by_cases h : d.getD j 0 = (v : Int)
  · have e : (d.getD j 0 == (v : Int)) = true := by rw [h]; simp
    rw [if_pos h, List.filter_cons_of_pos (by exact e)]; rfl
  · have e : ¬ (d.getD j 0 == (v : Int)) = true := by simpa using h
    rw [if_neg h, List.filter_cons_of_neg (by exact e), List.filter_nil, List.append_nil]
theorem lay_len (d : List Int) (j v : Nat) : (lay d j v).length ≤ j := by
  have := List.length_filter_le (fun i => d.getD i 0 == (v : Int)) (List.range j)
  simpa [lay] using this
theorem grt_ge : ∀ (l : List Int) (b : Int), b ≤ l.foldl max b ∧ ∀ x ∈ l, x ≤ l.foldl max b
  | [], b => ⟨Int.le_refl _, fun x h => by simp at h⟩
  | a :: l, b => by
    obtain ⟨h1, h2⟩ := grt_ge l (max b a)
    refine ⟨by simp only [List.foldl_cons]; omega, fun x hx => ?_⟩
    simp only [List.foldl_cons]
    rcases List.mem_cons.1 hx with rfl | hx
    · omega
    · exact h2 x hx
theorem grt_le : ∀ (l : List Int) (b m : Int), b ≤ m → (∀ x ∈ l, x ≤ m) → l.foldl max b ≤ m
  | [], b, m, h, _ => h
  | a :: l, b, m, h, hl => grt_le l (max b a) m (by have := hl a (by simp); omega) (fun x hx => hl x (by simp [hx]))

set_option maxHeartbeats 8000000 in
theorem Layers_any {w : World} {a : Option Addr} {n : Nat} {d : List Int} (h : Row .i64 w a n d) (hn : n ≤ 1000) (hd : ∀ x ∈ d, x ≤ 1000) (c : Nat) :
    Calls Try.prog 21 #[.slice a n c] w fun e w' => ∃ (va : Option Addr) (ca : Nat), e = .returned (.slice va (layL d).length ca) ∧ RR w' va (layL d).length (layL d) ∧ (layL d).length ≤ ca ∧ ca ≤ 1000000 ∧ Below w.heap.size w w' := by
  have hl := h.len
  have H := Lib.hid h
  have HD := Lib.hid hd
  obtain ⟨i0, hi, hz0, hz1, hz2⟩ := info_parts info_int
  obtain ⟨j0, ji, jz0, jz1, jz2⟩ := info_parts info_row
  have hgl : grt d ≤ 1000 := grt_le d (-1) 1000 (by omega) hd
  have hgg : -1 ≤ grt d := (grt_ge d (-1)).1
  have hge := Lib.hid (grt_ge d (-1)).2
  clear h hd
  go_enter Try.func21, Try.ntmps21
  go_wp2
  go_loopw [3, 11] (fun s t wr => wr = w ∧ ∃ (j : Nat) (m : Int), s = .int .i64 m ∧ t = .int .i64 j ∧ j ≤ n ∧ Hid (m = (d.take j).foldl max (-1)) ∧ -1 ≤ m ∧ m ≤ 1000) (fun _ t _ => n - (RowKit.intOf t).toNat)
  case atStart => exact ⟨rfl, 0, -1, rfl, rfl, by omega, Lib.hid (by simp), by omega, by omega⟩
  case round =>
    obtain ⟨rfl, j, m, rfl, rfl, hj, hm, hm1, hm2⟩ := hrel
    by_cases hlt : j < n
    · obtain ⟨b, off, rfl, hb, hcell⟩ := H.out.at (by omega)
      have c1 := hcell j hlt
      have hjn : (j : Int) < n := by omega
      have hjl : j < d.length := by omega
      have hx := HD.out _ (List.getElem_mem hjl)
      have e1 : d.getD j 0 = d[j] := by simp [List.getD, hjl]
      have hf := fold_take max (-1) d hjl
      rw [e1] at c1
      generalize d[j] = x at *
      have hnx := Lib.hid (show max m x = (d.take (j + 1)).foldl max (-1) from by rw [hf, hm.out])
      clear hcell e1 hf hm
      by_cases hmx : m < x
      · have e2 : max m x = x := by omega
        rw [e2] at hnx
        clear e2
        go_wp2
        exact ⟨⟨trivial, j + 1, x, rfl, by go_num, by omega, hnx, by omega, by omega⟩, by simp [RowKit.intOf]; omega⟩
      · have e2 : max m x = m := by omega
        rw [e2] at hnx
        clear e2
        go_wp2
        exact ⟨⟨trivial, j + 1, m, rfl, by go_num, by omega, hnx, by omega, by omega⟩, by simp [RowKit.intOf]; omega⟩
    · obtain rfl : j = n := by omega
      have hmg : m = grt d := by
        have := hm.out
        rw [← hl, List.take_length] at this
        exact this
      clear hm
      obtain ⟨G, hG⟩ : ∃ G : Nat, (grt d + 1).toNat = G := ⟨_, rfl⟩
      have hLL : layL d = (List.range G).map (fun v => iz (lay d d.length v)) := by unfold layL; rw [hG]
      have hGm : m + 1 = (G : Int) := by omega
      have hGl : G ≤ 1001 := by omega
      have hLL := Lib.hid hLL
      have hgG : Hid (∀ x ∈ d, x < (G : Int)) := Lib.hid (fun x hx => by have := hge.out x hx; show x < (G : Int); unfold grt at hmg; omega)
      clear hgl hgg hge hG hmg
      have hg0 : decide ((2147483647 : Int) ≤ m) = false := by simp; omega
      go_wp2_with (at_make; refine wpList_make_full _ rfl _ _ 22 rfl wr.heap.size 23 j0 (.slice none 0 0) 1 Try.underlying22 ji jz0 jz1 .i64 .i64 G G G rfl rfl rfl rfl (by rw [jz2]; omega) (by unfold maxLen; omega) (Nat.le_refl _) ?_; intro w1 hown hg; have hW0 := Lib.hid (rw_new ((Below.refl wr.heap.size wr).grown hg (Nat.le_refl _) (fun _ h => (by cases h))) hown); clear hown hg)
      clear hg0
      obtain ⟨wa, rfl⟩ : ∃ wa : World, wa = wr := ⟨_, rfl⟩
      go_loopw [26] (fun s wq => ∃ (t : Nat) (V : Nat → Value) (U : Nat → List Nat), s = .int .i64 t ∧ t ≤ j ∧ Hid (RW wa wq wa.heap.size G V U) ∧ Hid (∀ k, U k = lay d t k)) (fun s _ => j - (RowKit.intOf s).toNat)
      case atStart => exact ⟨0, _, _, rfl, by omega, hW0, Lib.hid (fun k => by simp [lay])⟩
      case round =>
        clear hW0
        obtain ⟨t, V, U, rfl, ht, hW, hU⟩ := hrel
        by_cases htj : t < j
        · obtain ⟨b, off, rfl, hb, hcell⟩ := H.out.at (by omega)
          have c1 := stepc hW.out.low hb (hcell t htj)
          have htn : (t : Int) < j := by omega
          have htl : t < d.length := by omega
          have hx := hgG.out _ (List.getElem_mem htl)
          have e1 : d.getD t 0 = d[t] := by simp [List.getD, htl]
          have hls := Lib.hid (fun v => lay_succ d t v)
          rw [e1] at c1 hls
          generalize d[t] = x at *
          clear hcell e1
          by_cases hx0 : 0 ≤ x
          · obtain ⟨y, rfl⟩ : ∃ y : Nat, x = (y : Int) := ⟨x.toNat, by omega⟩
            have hyn : y < G := by omega
            obtain ⟨cu, fu⟩ := hW.out.cell hyn
            obtain ⟨ua, uc, eu⟩ := hW.out.form hyn
            have hzl : (U y).length ≤ 1000000 := by rw [hU.out y]; have := lay_len d t y; omega
            have hnx : Hid (∀ k, upd U y (U y ++ [t]) k = lay d (t + 1) k) := Lib.hid (fun k => by
              rw [hls.out k]
              by_cases hk : k = y
              · subst hk; rw [upd_same, if_pos rfl, hU.out k]
              · rw [upd_other _ _ hk, if_neg (by omega), hU.out k])
            have hu0 := hW.out.ur y hyn
            generalize hz : (U y).length = z at *
            rw [eu] at cu hu0
            have hus := Lib.hid (hW.out.user hyn eu hz)
            have hur := Lib.hid hu0
            have hlz := hW.out.low.size
            have hyi : (y : Int) < G := by omega
            have hbul := hW.out.lt
            have hne := hW.out.ne hyn
            rw [eu] at hne
            clear hu0 hls hW hU eu hz
            go_wp2_with (at_builtin; refine wpList_append_lies _ rfl _ _ 23 rfl wa.heap.size 3 i0 (.int .i64 0) 1 8 Try.underlying23 hi hz0 hz1 hz2 rfl (by decide) (.slice ua z uc) z _ rfl (hur.out.alloc _) ⟨_, 0, none⟩ 1 1 [.int .i64 (t : Int)] rfl rfl (news1 _ _ _) (by simp [Value.oneCell']) (by decide) (by unfold maxLen; omega) (by omega) (by simp; omega) _ rfl ?_; intro g1 cap1 w8 hown8 hgrow8 hat8 hlt8; obtain ⟨x0, x1⟩ := grow_box hgrow8 (b := wa.heap.size) (o := y) (v := .slice ua z uc) (by simp [go_sem, hbul, cu]) (by simp [go_sem, hbul, fu]) hne)
            exact ⟨⟨t + 1, _, _, by go_num, by omega, Lib.hid (hus.out _ _ _ _ _ ((Below.refl _ _).alloc (Nat.le_refl _) _) hown8 hgrow8 hat8), hnx⟩, by simp [RowKit.intOf]; omega⟩
          · have hg1 : decide ((0 : Int) ≤ x) = false := by simp; omega
            have hnx : Hid (∀ k, U k = lay d (t + 1) k) := Lib.hid (fun k => by rw [hls.out k, if_neg (by omega), hU.out k])
            clear hls hU
            go_wp2
            exact ⟨⟨t + 1, V, U, by go_num, by omega, hW, hnx⟩, by simp [RowKit.intOf]; omega⟩
        · obtain rfl : t = j := by omega
          have hfin := hW.out.rr (by omega) (fun k _ => by rw [hU.out k]; have := lay_len d t k; omega)
          have hlow := Lib.hid hW.out.low
          have hfin := Lib.hid (show RR wr (some ⟨wa.heap.size, 0, none⟩) G (layL d) by
            rw [hLL.out, hl]
            have e : (fun k => iz (U k)) = (fun v => iz (lay d t v)) := funext (fun k => by rw [hU.out k])
            rw [← e]; exact hfin)
          have hG2 := Lib.hid (show (layL d).length = G from hfin.out.len)
          clear hW hU hLL
          go_wp2
          go_ret
          rw [hG2.out]
          exact ⟨some ⟨wa.heap.size, 0, none⟩, G, rfl, hfin.out, Nat.le_refl _, by omega, hlow.out⟩
end Go.Proofs.Ytocfchgkfaogdaa
