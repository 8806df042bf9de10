/-
  The heap's own calls: Push, Pop.
-/
import Derived.Test.YtocfchgkfaogdaaLvQ
namespace Go.Proofs.Ytocfchgkfaogdaa
open Go.RowKit
set_option maxRecDepth 100000

set_option maxHeartbeats 4000000 in
theorem hpush_any {q n : Nat} {v : Value} {l : List Int} {w : World} (h : QIs w q v l) (hh : IsHeap l) (hl : l.length = n) (hn : n ≤ 100000) (x : Int) :
    Calls Try.prog 41 #[.iface 68 (.pointer (some ⟨q, 0, none⟩)), .iface 3 (.int .i64 x)] w fun e w' => e = .returned (.tuple #[]) ∧ ∃ v' l', l'.Perm (l ++ [x]) ∧ IsHeap l' ∧ QStep q v w v' w' l' := by
  have hp := Lib.hid (qpush_any h hl (by omega) x)
  have hx := Lib.hid (UpAt.push hh x)
  have hm := method_Push q w
  have hup := Lib.hid (fun v1 w1 (hs : QStep q v w v1 w1 (l ++ [x])) => up_any hs.is hx.out (n := n + 1) (by simp [hl]) (by omega) (by omega))
  have hlen := Lib.hid (fun v1 w1 (hs : QStep q v w v1 w1 (l ++ [x])) => (show ∃ a c, v1 = .slice a (n + 1) c by have := hs.is.form; simpa [hl] using this))
  have hle := Lib.hid (fun a c w => len_any a (n + 1) c w)
  rw [hl] at hup
  clear h hh hx
  go_enter Try.func41, Try.ntmps41
  go_wp2_with (first
    | (go_at_call 88; (with_reducible refine hp.out.mono ?_); rintro e w5 ⟨rfl, v1, hs⟩; obtain ⟨a, c, rfl⟩ := hlen.out _ _ hs; have hm5 := method_Len q _ w5 hs.is.cell; have hs := Lib.hid hs)
    | (go_at_call 42; (with_reducible refine (hle.out _ _ _).mono ?_); rintro e w6 ⟨rfl, rfl⟩)
    | (go_at_call 48; (with_reducible refine (hup.out _ _ hs.out).mono ?_); rintro e w7 ⟨rfl, l', hP, hH, hq⟩))
  go_end0
  exact ⟨rfl, _, l', hP, hH, hs.out.then hq⟩

set_option maxHeartbeats 4000000 in
theorem hpop_any {q m : Nat} {v : Value} {l : List Int} {w : World} (h : QIs w q v l) (hh : IsHeap l) (hl : l.length = m + 1) (hn : m ≤ 100000) :
    Calls Try.prog 43 #[.iface 68 (.pointer (some ⟨q, 0, none⟩))] w fun e w' => e = .returned (.iface 3 (.int .i64 (l.getD 0 0))) ∧ ∃ v' l', l.Perm (l.getD 0 0 :: l') ∧ IsHeap l' ∧ QStep q v w v' w' l' := by
  obtain ⟨g, c, rfl⟩ := h.at (by omega)
  rw [hl] at h ⊢
  have hle := Lib.hid (fun a c w => len_any a (m + 1) c w)
  have hm1 := method_Len q _ w h.cell
  have hm2 := method_Swap q _ w h.cell
  have hsw0 : Calls Try.prog 90 #[.slice (some ⟨g, 0, none⟩) (m + 1) c, .int .i64 0, .int .i64 m] w _ := swap_any (h.row' hl) hl (i := 0) (j := m) (by omega) (by omega)
  have hsw := Lib.hid hsw0
  clear hsw0
  have hsl : (swp l 0 m).length = m + 1 := by rw [swp_len]; exact hl
  have hQ1 := Lib.hid (fun W (hr : W.ownsRow 0 3 1 (.slice (some ⟨g, 0, none⟩) (m + 1) c) (m + 1) (ints (swp l 0 m))) (hk : Kept (fun k => k = g) w W) => h.swapped hsl hr hk)
  have hdn := Lib.hid (fun W (hs : QStep q (.slice (some ⟨g, 0, none⟩) (m + 1) c) w (.slice (some ⟨g, 0, none⟩) (m + 1) c) W (swp l 0 m)) => down_any hs.is (DnAt.start hh hl) hsl (m := m) (by omega) (by omega))
  have hpp := Lib.hid (fun W l1 (hs : QStep q (.slice (some ⟨g, 0, none⟩) (m + 1) c) w (.slice (some ⟨g, 0, none⟩) (m + 1) c) W l1) (h1 : l1.length = m + 1) => qpop_any hs.is h1 (by omega))
  have hfin := Lib.hid (fun (l1 : List Int) (hp : l1.Perm (swp l 0 m)) (hk : ∀ k, 0 < k → k < m → l1.getD ((k - 1) / 2) 0 ≤ l1.getD k 0) (he : ∀ i, m ≤ i → l1.getD i 0 = (swp l 0 m).getD i 0) =>
    (show l1.length = m + 1 ∧ l1.getD m 0 = l.getD 0 0 ∧ l.Perm (l.getD 0 0 :: l1.take m) ∧ IsHeap (l1.take m) by
      have e1 : l1.length = m + 1 := by rw [hp.length_eq, hsl]
      have e2 : l1.getD m 0 = l.getD 0 0 := by rw [he m (Nat.le_refl _), swp_get l (by omega) (by omega), if_pos rfl]
      exact ⟨e1, e2, pop_perm hl (hp.trans (swp_perm l (by omega) (by omega))) e2, isHeap_take (by omega) hk⟩))
  generalize l.getD 0 0 = x at *
  clear h hh
  go_enter Try.func43, Try.ntmps43
  go_wp2_with (first
    | (go_at_call 42; (with_reducible refine (hle.out _ _ _).mono ?_); rintro e w6 ⟨rfl, rfl⟩)
    | (go_at_call 90; (with_reducible refine hsw.out.mono ?_); rintro e w7 ⟨rfl, hr, hk⟩; have hs := Lib.hid (hQ1.out _ hr hk); clear hr hk)
    | (go_at_call 49; (with_reducible refine (hdn.out _ hs.out).mono ?_); rintro e w8 ⟨⟨b, rfl⟩, l1, hp, hk, he, hq⟩; obtain ⟨f1, f2, f3, f4⟩ := hfin.out l1 hp hk he; have hq1 := Lib.hid (hs.out.then hq); have hm8 := method_Pop q w8; clear hp hk he hq)
    | (go_at_call 87; (with_reducible refine (hpp.out _ l1 hq1.out f1).mono ?_); rintro e w9 ⟨rfl, hq9⟩; rw [f2]))
  go_ret
  exact ⟨rfl, _, _, f3, f4, hq1.out.then hq9⟩
end Go.Proofs.Ytocfchgkfaogdaa
