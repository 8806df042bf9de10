/-
  LevelCalls: few, same.
-/
import Derived.Test.YtocfchgkfaogdaaLcA
namespace Go.Proofs.Ytocfchgkfaogdaa
open Go.RowKit Go.Maps
set_option maxRecDepth 100000

def fewL (N : List (List Int)) : List (List Int) := (List.range (min N.length 60)).map (fun k => (N.getD k []).take 20)
theorem fewL_len (N : List (List Int)) : (fewL N).length = min N.length 60 := by simp [fewL]
theorem fewL_get (N : List (List Int)) {k : Nat} (hk : k < min N.length 60) : (fewL N).getD k [] = (N.getD k []).take 20 := by
  unfold fewL; simp only [List.getD_eq_getElem?_getD, List.getElem?_map, List.getElem?_range hk]; rfl
theorem fewL_row (N : List (List Int)) (k : Nat) : ((fewL N).getD k []).length ≤ 20 := by
  by_cases hk : k < min N.length 60
  · rw [fewL_get N hk, List.length_take]; omega
  · rw [List.getD_eq_getElem?_getD, List.getElem?_eq_none (by rw [fewL_len]; omega)]; simp
theorem fewL_idem (N : List (List Int)) : fewL (fewL N) = fewL N := by
  apply List.ext_getElem
  · rw [fewL_len, fewL_len]; omega
  · intro k h1 h2
    rw [fewL_len] at h2
    have h3 : k < min (fewL N).length 60 := by rw [fewL_len]; omega
    have e1 := fewL_get (fewL N) h3
    have e2 := fewL_get N h2
    rw [e2, List.take_take, Nat.min_self, ← e2] at e1
    simpa [List.getD, h1, fewL_len, h2] using e1

set_option maxHeartbeats 8000000 in
theorem few_any {w : World} {a : Option Addr} {n : Nat} {N : List (List Int)} (h : RR w a n N) (c : Nat) :
    Calls Try.prog 8 #[.slice a n c] w fun e w' => ∃ (oa : Option Addr) (oc : Nat), e = .returned (.slice oa (fewL N).length oc) ∧ FewAt w.heap.size w'.heap.size w' (.slice oa (fewL N).length oc) (fewL N).length (fewL N) ∧ (fewL N).length ≤ oc ∧ oc ≤ 9223372036854775807 ∧ Below w.heap.size w w' := by
  obtain ⟨j0, ji, jz0, jz1, jz2⟩ := info_parts info_row
  have hl := h.len
  have hle := h.le
  have H := Lib.hid h
  clear h
  go_enter Try.func8, Try.ntmps8
  obtain ⟨M, hM⟩ : ∃ M, min n 60 = M := ⟨_, rfl⟩
  have hML : (fewL N).length = M := by rw [fewL_len, hl, hM]
  rw [hML]
  go_wp2
  go_loopw [3, 8] (fun s t wr => ∃ (j : Nat) (oa : Option Addr) (oc : Nat) (V : Nat → Value) (U : Nat → List Int), s = .slice oa j oc ∧ t = .int .i64 j ∧ j ≤ M ∧ Hid (RC w wr (.slice oa j oc) j V U) ∧ Hid (∀ k, k < j → U k = (N.getD k []).take 20)) (fun _ t _ => n - (RowKit.intOf t).toNat)
  case atStart => exact ⟨0, none, 0, fun _ => .nilIface, fun _ => [], rfl, rfl, by omega, Lib.hid (RC.nil w _ _), Lib.hid (fun k hk => by omega)⟩
  case round =>
    obtain ⟨j, oa, oc, V, U, rfl, rfl, hj, hR, hU⟩ := hrel
    have hend : j = M → Hid (FewAt w.heap.size wr.heap.size wr (.slice oa M oc) M (fewL N) ∧ M ≤ oc ∧ oc ≤ 9223372036854775807 ∧ Below w.heap.size w wr) := fun e => Lib.hid (by
      subst e
      have hrr := FewAt.of_rc hR.out (by omega) (fun k hk => by rw [hU.out k hk, List.length_take]; omega)
      have e2 : (List.range j).map U = fewL N := by
        unfold fewL
        rw [hl, hM]
        exact List.map_congr_left (fun k hk => hU.out k (by simpa using hk))
      rw [e2] at hrr
      obtain ⟨a2, c2, e3, h1, h2⟩ := hR.out.len
      simp only [Value.slice.injEq, true_and] at e3
      obtain ⟨rfl, rfl⟩ := e3
      exact ⟨hrr, h1, h2, hR.out.low⟩)
    by_cases hjn : j < n
    · obtain ⟨b, off, rfl, hb, hcell⟩ := H.out.at (by omega)
      obtain ⟨ai, ci, c1, q1, q2, hrow0⟩ := hcell j hjn
      have c1r := stepc hR.out.low hb c1
      have hji : (j : Int) < n := by omega
      by_cases h60 : j = 60
      · subst h60
        have hE := hend (by omega)
        have h6 : (((60 : Nat) : Int) == 60) = true := by decide
        obtain rfl : M = 60 := by omega
        clear hend hcell c1 hrow0 hR hU
        go_wp2
        go_ret
        exact ⟨oa, oc, rfl, hE.out⟩
      · have h6 : ((j : Int) == 60) = false := by simp; omega
        have hjM : j < M := by omega
        obtain ⟨r, hr⟩ : ∃ r, min (N.getD j []).length 20 = r := ⟨_, rfl⟩
        have hrowt := (hrow0.step hR.out.low).take r (by omega)
        have e20 : (N.getD j []).take r = (N.getD j []).take 20 := by
          rw [← hr]
          by_cases h : (N.getD j []).length ≤ 20
          · rw [List.take_of_length_le (by omega), List.take_of_length_le h]
          · rw [Nat.min_eq_right (by omega)]
        rw [e20] at hrowt
        have hcl := Lib.hid (clone_row hrowt (by omega) ci)
        have hlr : ((N.getD j []).take 20).length = r := hrowt.len
        have hnx := Lib.hid (fun (y : List Int) (hy : y = (N.getD j []).take 20) => (show ∀ k, k < j + 1 → upd U j y k = (N.getD k []).take 20 from fun k hk => by
          by_cases e : k = j
          · subst e; rw [upd_same, hy]
          · rw [upd_other _ _ e]; exact hU.out k (by omega)))
        have hri : min ((N.getD j []).length : Int) 20 = (r : Int) := by omega
        have hrq : r ≤ (N.getD j []).length := by omega
        have hr20 : r ≤ 20 := by omega
        have hrc : r ≤ ci := by omega
        generalize hY : (N.getD j []).take 20 = Y at *
        generalize (N.getD j []).length = q at *
        have hrcI : (r : Int) ≤ ci := by omega
        have hnx2 := Lib.hid (hnx.out Y rfl)
        have hR0 := hR
        clear hend hcell c1 hrow0 hrowt e20 hU hr hnx hR
        go_wp2_with (first
          | (go_at_call 9; (with_reducible refine hcl.out.mono ?_); rintro e w5 ⟨a2, c2, rfl, hown5, hb5⟩; have hRq := Lib.hid (hR0.out.below hb5); have hub := Lib.hid hRq.out.ub; have hls := hRq.out.low.size; have happ := Lib.hid (fun w2 w1 g1 cap1 hb h1 h2 => hRq.out.app (v := .slice a2 r c2) (l := Y) (by rw [hlr]; exact own_base hown5 hR0.out.low.size) (fun k hk b e1 e2 => by have h1 := own_ge hown5 b e1; have h2 := own_blt (hR0.out.ur k hk) e2; omega) w2 w1 g1 cap1 hb h1 h2); clear hown5 hb5)
          | (at_builtin; refine wpList_append_lies _ rfl _ _ 22 rfl w.heap.size 23 j0 (.slice none 0 0) 1 24 Try.underlying22 ji jz0 jz1 jz2 rfl (by decide) (.slice oa j oc) j _ rfl (hub.out.alloc _) ⟨_, 0, none⟩ 1 1 [.slice a2 r c2] rfl rfl (news1 _ _ _) (by simp [Value.oneCell']) (by decide) (by unfold maxLen; omega) (by omega) (by simp; omega) _ rfl ?_; intro g1 cap1 w8 hown8 hgrow8 hat8 hlt8))
        exact ⟨⟨j + 1, some ⟨g1, 0, none⟩, cap1, _, _, rfl, by go_num, by omega, Lib.hid (happ.out _ _ _ _ ((Below.refl _ _).alloc (Nat.le_refl _) _) hown8 hgrow8), hnx2⟩, by simp [RowKit.intOf]; omega⟩
    · have hE := hend (by omega)
      obtain rfl : j = M := by omega
      clear hend hR hU
      go_wp2
      go_ret
      exact ⟨oa, oc, rfl, hE.out⟩
end Go.Proofs.Ytocfchgkfaogdaa
