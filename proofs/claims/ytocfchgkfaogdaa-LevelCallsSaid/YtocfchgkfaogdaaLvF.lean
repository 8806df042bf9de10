/-
  Rows of rows that a call puts together; brought.
-/
import Derived.Test.YtocfchgkfaogdaaLvB
namespace Go.Proofs.Ytocfchgkfaogdaa
open Go.RowKit Go.Maps
set_option maxRecDepth 100000

structure RC (w0 w : World) (ov : Value) (n : Nat) (V : Nat → Value) (U : Nat → List Int) : Prop where
  low : Below w0.heap.size w0 w
  ub : w.ownsRow w0.heap.size 23 1 ov n ((List.range n).map V)
  ur : ∀ k, k < n → w.ownsRow w0.heap.size 3 1 (V k) (U k).length (ints (U k))
  auu : ∀ k j, k < n → j < n → k ≠ j → ∀ b, (V k).ownBlock = some b → (V j).ownBlock ≠ some b
theorem RC.nil (w : World) (V : Nat → Value) (U : Nat → List Int) : RC w w (.slice none 0 0) 0 V U := ⟨Below.refl _ _, own_nil _ _ _, fun k h => by omega, fun k j h => by omega⟩
section
variable {w0 w : World} {ov : Value} {n : Nat} {V : Nat → Value} {U : Nat → List Int}
theorem RC.below {w' : World} (h : RC w0 w ov n V U) (hb : Below w.heap.size w w') : RC w0 w' ov n V U := ⟨nextw h.low hb, own_below h.ub hb, fun k hk => own_below (h.ur k hk) hb, h.auu⟩
theorem RC.oblk (h : RC w0 w ov n V U) {k b : Nat} (hk : k < n) (hb : ov.ownBlock = some b) : (V k).ownBlock ≠ some b := fun e => by
  obtain ⟨cur, hc⟩ := own_type (h.ur k hk) e
  obtain ⟨cur2, hc2⟩ := own_type h.ub hb
  exact absurd (kinds hc hc2) (by decide)
theorem map_upd_snoc (n : Nat) (V : Nat → Value) (v : Value) : (List.range (n + 1)).map (upd V n v) = (List.range n).map V ++ [v] := by
  rw [List.range_succ, List.map_append]
  congr 1
  · apply List.map_congr_left
    intro i hi
    rw [upd_other _ _ (by simp at hi; omega)]
  · simp [upd_same]
/-- A row more. -/
theorem RC.app (h : RC w0 w ov n V U) {v : Value} {l : List Int} (hv : w.ownsRow w0.heap.size 3 1 v l.length (ints l)) (hva : ∀ k, k < n → ∀ b, v.ownBlock = some b → (V k).ownBlock ≠ some b)
    (w2 w1 : World) (g1 cap1 : Nat) (hb : Below w.heap.size w w2) (hown : w1.ownsRow w0.heap.size 23 1 (.slice (some ⟨g1, 0, none⟩) (n + 1) cap1) (n + 1) ((List.range n).map V ++ [v])) (hg : w2.grownBy w1 ov.ownBlock) :
    RC w0 w1 (.slice (some ⟨g1, 0, none⟩) (n + 1) cap1) (n + 1) (upd V n v) (upd U n l) := by
  have hk := grown_kept hb hg
  have row : ∀ {base size n2 : Nat} {v : Value} {xs : List Value}, w.ownsRow base 3 size v n2 xs → w1.ownsRow base 3 size v n2 xs := fun hr => own_keptF hr hk (fun b e hf => by
    obtain ⟨cur, hc⟩ := own_type hr e
    obtain ⟨cur2, hc2⟩ := own_type h.ub hf
    exact absurd (kinds hc hc2) (by decide))
  refine ⟨h.low.trans (hk.below (fun k e => own_ge h.ub k e) h.low.size), by rw [map_upd_snoc]; exact hown, fun k hkn => ?_, fun k j hkn hj hkj b => ?_⟩
  · by_cases e : k = n
    · subst e; rw [upd_same, upd_same]; exact row hv
    · rw [upd_other _ _ e, upd_other _ _ e]; exact row (h.ur k (by omega))
  · by_cases ek : k = n
    · subst ek
      rw [upd_same, upd_other _ _ (fun e => hkj e.symm)]
      exact hva j (by omega) b
    · by_cases ej : j = n
      · subst ej
        rw [upd_same, upd_other _ _ ek]
        intro e1 e2
        exact hva k (by omega) b e2 e1
      · rw [upd_other _ _ ek, upd_other _ _ ej]
        exact h.auu k j (by omega) (by omega) hkj b
theorem RC.rr (h : RC w0 w ov n V U) (hn : n ≤ 1000000) (hU : ∀ k, k < n → (U k).length ≤ 1000000) {a : Option Addr} {c : Nat} (e : ov = .slice a n c) : RR w a n ((List.range n).map U) := by
  subst e
  refine ⟨by simp, by omega, ?_⟩
  by_cases h0 : n = 0
  · exact .inl h0
  · right
    obtain ⟨g, cap, e⟩ := own_form h.ub (by omega)
    simp only [Value.slice.injEq, true_and] at e
    obtain ⟨rfl, rfl⟩ := e
    refine ⟨g, 0, rfl, own_lt h.ub, fun i hi => ?_⟩
    obtain ⟨ai, ci, ev⟩ := own_slice (h.ur i hi)
    have hr := h.ur i hi
    rw [ev] at hr
    have hg : ((List.range n).map U).getD i [] = U i := by simp [List.getD, hi]
    obtain ⟨h1, h2⟩ := own_cap hr
    have := hU i hi
    rw [hg, Nat.zero_add, h.ub.cellAt i (by omega)]
    refine ⟨ai, ci, by simp [hi, ev], h1, h2, Row.of_own hr rfl (by omega)⟩
theorem RC.len (h : RC w0 w ov n V U) : ∃ a c, ov = .slice a n c ∧ n ≤ c ∧ c ≤ 9223372036854775807 := by
  obtain ⟨a, c, e⟩ := own_slice h.ub
  have hu := h.ub
  rw [e] at hu
  rcases hu.2 with ⟨h0, h1⟩ | ⟨g, cap, cur, hv, _, _, h2, h3, _⟩
  · simp at h0; obtain ⟨-, rfl, rfl⟩ := h0; exact ⟨a, 0, e, by omega, by omega⟩
  · simp at hv; obtain ⟨-, rfl⟩ := hv; unfold maxLen at h3; exact ⟨a, c, e, by omega, by omega⟩
end
theorem mayN_of {n : Nat} {U : Nat → List Int} (h : ∀ k, k < n → ∀ z ∈ U k, 0 ≤ z ∧ z < (n : Int)) : mayN ((List.range n).map U) = true := by
  unfold mayN allT
  rw [List.all_eq_true]
  intro r hr
  obtain ⟨k, hk, rfl⟩ := List.mem_map.1 hr
  rw [List.all_eq_true]
  intro z hz
  have := h k (by simpa using hk) z hz
  unfold isT
  simp
  omega
theorem bounds_u8 {z : Int} (h : (Lit.int .u8 z).wf = true) : 0 ≤ z ∧ z ≤ 255 := by
  simp [Lit.wf, IntKind.min, IntKind.max, IntKind.signed, IntKind.bits] at h
  omega

set_option maxHeartbeats 8000000 in
theorem brought_any {w : World} {a : Option Addr} {n c : Nat} {B : List (List Int)} (h : RRk .u8 w a n B) (hc : n ≤ c) (hcm : c ≤ 9223372036854775807) (hB : ∀ i, i < n → ∀ z ∈ B.getD i [], (Lit.int .u8 z).wf = true) :
    Calls Try.prog 26 #[.slice a n c] w fun e w' => ∃ (ov : Value) (m : Nat) (V : Nat → Value) (U : Nat → List Int), e = .returned ov ∧ m ≤ 40 ∧ RC w w' ov m V U ∧ (∀ k, k < m → (U k).length ≤ 10 ∧ ∀ z ∈ U k, 0 ≤ z ∧ z < (m : Int)) := by
  obtain ⟨i0, hi, hz0, hz1, hz2⟩ := info_parts info_int
  obtain ⟨j0, ji, jz0, jz1, jz2⟩ := info_parts info_row
  obtain ⟨m, hm⟩ : ∃ m, min n 40 = m := ⟨_, rfl⟩
  have hmi : min (n : Int) 40 = (m : Int) := by omega
  have hmn : m ≤ n := by omega
  have hm40 : m ≤ 40 := by omega
  have H := Lib.hid h
  have HB := Lib.hid hB
  clear h hB hm
  go_enter Try.func26, Try.ntmps26
  go_wp2
  go_loopw [3, 16] (fun s t wr => ∃ (j : Nat) (oa : Option Addr) (oc : Nat) (V : Nat → Value) (U : Nat → List Int), s = .slice oa j oc ∧ t = .int .i64 j ∧ j ≤ m ∧ Hid (RC w wr (.slice oa j oc) j V U) ∧ Hid (∀ k, k < j → (U k).length ≤ 10 ∧ ∀ z ∈ U k, 0 ≤ z ∧ z < (m : Int))) (fun _ t _ => m - (RowKit.intOf t).toNat)
  case atStart => exact ⟨0, none, 0, fun _ => .nilIface, fun _ => [], rfl, rfl, by omega, Lib.hid (RC.nil w _ _), Lib.hid (fun k hk => by omega)⟩
  case round =>
    obtain ⟨j, oa, oc, V, U, rfl, rfl, hj, hR, hU⟩ := hrel
    by_cases hlt : j < m
    · obtain ⟨b, off, rfl, hb, hcell⟩ := H.out.at (by omega)
      obtain ⟨ai, ci, c1, q1, q2, hrow⟩ := hcell j (by omega)
      have c1r := stepc hR.out.low hb c1
      have hjm : (j : Int) < m := by omega
      have hwf := Lib.hid (HB.out j (by omega))
      have hrow := Lib.hid hrow
      generalize hBj : B.getD j [] = Bj at *
      generalize hq : Bj.length = q at *
      obtain ⟨r, hr⟩ : ∃ r, min q 10 = r := ⟨_, rfl⟩
      have hri : min (q : Int) 10 = (r : Int) := by omega
      have hrq : r ≤ q := by omega
      have hr10 : r ≤ 10 := by omega
      have hm0 : (m : Int) ≠ 0 := by omega
      obtain ⟨wa, rfl⟩ : ∃ wa : World, wa = wr := ⟨_, rfl⟩
      clear hcell c1 hr hBj
      go_wp2
      go_loopw [6, 26] (fun s t wq => ∃ (p : Nat) (la : Option Addr) (lc : Nat) (L : List Int), s = .slice la p lc ∧ t = .int .i64 p ∧ p ≤ r ∧ L.length = p ∧ Hid (Below wa.heap.size wa wq) ∧ Hid (wq.ownsRow wa.heap.size 3 1 (.slice la p lc) p (ints L)) ∧ Hid (∀ z ∈ L, 0 ≤ z ∧ z < (m : Int))) (fun _ t _ => r - (RowKit.intOf t).toNat)
      case atStart => exact ⟨0, none, 0, [], rfl, rfl, by omega, rfl, Lib.hid (Below.refl _ _), Lib.hid (own_nil _ _ _), Lib.hid (fun z hz => by simp at hz)⟩
      case round =>
        obtain ⟨p, la, lc, L, rfl, rfl, hp, hLp, hB1, hown, hL⟩ := hrel
        have hlw := hR.out.low.size
        have hlz := hB1.out.size
        by_cases hpr : p < r
        · obtain ⟨rb, roff, rfl, hrb, hrc⟩ := hrow.out.at (by omega)
          have cr := stepc hB1.out (by omega) (stepc hR.out.low hrb (hrc p (by omega)))
          have hpl : p < Bj.length := by omega
          rw [getD_at hpl] at cr
          obtain ⟨y0, y1⟩ := bounds_u8 (hwf.out _ (List.getElem_mem hpl))
          generalize Bj[p] = z at *
          obtain ⟨y, rfl⟩ : ∃ y : Nat, z = (y : Int) := ⟨z.toNat, by omega⟩
          have hpi : (p : Int) < r := by omega
          have hmd : ((y : Int)).tmod (m : Int) = ((y % m : Nat) : Int) := by
            rw [Int.tmod_eq_emod_of_nonneg (by omega)]; rfl
          have hyl : y % m < m := Nat.mod_lt _ (by omega)
          have hL2 : Hid (∀ z ∈ L ++ [((y % m : Nat) : Int)], 0 ≤ z ∧ z < (m : Int)) := Lib.hid (fun z hz => by
            rcases List.mem_append.1 hz with hz | hz
            · exact hL.out z hz
            · simp at hz; omega)
          generalize hyy : y % m = x at *
          have hmd2 := hmd
          clear hrc hL
          go_wp2_with (at_builtin; refine wpList_append_lies _ rfl _ _ 23 rfl wa.heap.size 3 i0 (.int .i64 0) 1 8 Try.underlying23 hi hz0 hz1 hz2 rfl (by decide) (.slice la p lc) p _ rfl (hown.out.alloc _) ⟨_, 0, none⟩ 1 1 [.int .i64 (x : Int)] rfl rfl (news1 _ _ _) (by simp [Value.oneCell']) (by decide) (by unfold maxLen; omega) (by omega) (by simp; omega) _ rfl ?_; intro g1 cap1 w8 hown8 hgrow8 hat8 hlt8)
          exact ⟨⟨p + 1, some ⟨g1, 0, none⟩, cap1, L ++ [(x : Int)], rfl, by go_num, by omega, by simp [hLp], Lib.hid ((hB1.out.alloc hlz _).grown hgrow8 (by simp; omega) (fun k hk => own_ge hown.out k hk)), Lib.hid (by rw [show ints (L ++ [(x : Int)]) = ints L ++ [.int .i64 (x : Int)] by simp [ints]]; exact hown8), hL2⟩, by simp [RowKit.intOf]; omega⟩
        · obtain rfl : p = r := by omega
          have hRq := Lib.hid (hR.out.below hB1.out)
          have happ := Lib.hid (fun w2 w1 g1 cap1 hb h1 h2 => hRq.out.app (v := .slice la p lc) (l := L) (by rw [hLp]; exact own_base hown.out hlw) (fun k hk b e1 e2 => by
            have h1 := own_ge hown.out b e1
            have h2 := own_blt (hR.out.ur k hk) e2
            omega) w2 w1 g1 cap1 hb h1 h2)
          have hU2 : Hid (∀ k, k < j + 1 → (upd U j L k).length ≤ 10 ∧ ∀ z ∈ upd U j L k, 0 ≤ z ∧ z < (m : Int)) := Lib.hid (fun k hk => by
            by_cases e : k = j
            · subst e; rw [upd_same]; exact ⟨by omega, hL.out⟩
            · rw [upd_other _ _ e]; exact hU.out k (by omega))
          have hub := Lib.hid hRq.out.ub
          have hls := hRq.out.low.size
          clear hL hown hB1 hR hU hwf hrow
          go_wp2_with (at_builtin; refine wpList_append_lies _ rfl _ _ 22 rfl w.heap.size 23 j0 (.slice none 0 0) 1 24 Try.underlying22 ji jz0 jz1 jz2 rfl (by decide) (.slice oa j oc) j _ rfl (hub.out.alloc _) ⟨_, 0, none⟩ 1 1 [.slice la p lc] rfl rfl (news1 _ _ _) (by simp [Value.oneCell']) (by decide) (by unfold maxLen; omega) (by omega) (by simp; omega) _ rfl ?_; intro g1 cap1 w8 hown8 hgrow8 hat8 hlt8)
          exact ⟨⟨j + 1, some ⟨g1, 0, none⟩, cap1, _, _, rfl, by go_num, by omega, Lib.hid (happ.out _ _ _ _ ((Below.refl _ _).alloc (Nat.le_refl _) _) hown8 hgrow8), hU2⟩, by simp [RowKit.intOf]; omega⟩
    · obtain rfl : j = m := by omega
      go_wp2
      go_ret
      exact ⟨_, j, V, U, rfl, hm40, hR.out, hU.out⟩
end Go.Proofs.Ytocfchgkfaogdaa
