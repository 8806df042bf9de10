/-
  Rows of words compared, and copied.
-/
import Derived.Test.YtgbhhmmllbanlaaLanQ
import Derived.Shelf.SlMaps.Clone
namespace Go.Proofs.Ytgbhhmmllbanlaa
open Go.RowKit
set_option maxRecDepth 100000

theorem bneq {a b : Int} (h : a = b) : (a != b) = false := by simp [h]

set_option maxHeartbeats 1000000 in
theorem same_any {w : World} {a a2 : Option Addr} {n c c2 : Nat} {f : Nat → Nat} (h1 : WRow w a n f) (h2 : WRow w a2 n f) :
    Calls Try.prog 23 #[.slice a n c, .slice a2 n c2] w fun e w' => e = .returned (.bool true) ∧ Below w.heap.size w w' := by
  have H1 := Lib.hid h1
  have H2 := Lib.hid h2
  have hle := h1.1
  have hne := bneq (a := (n : Int)) (b := n) rfl
  clear h1 h2
  go_enter Try.func23, Try.ntmps23
  go_wp2
  go_loopw [13] (fun s wr => ∃ j : Nat, j ≤ n ∧ s = .int .i64 j ∧ Hid (Below w.heap.size w wr)) (fun s _ => n - (intOf s).toNat)
  case atStart => exact ⟨0, Nat.zero_le _, rfl, Lib.hid (Below.refl _ _)⟩
  case round =>
    obtain ⟨j, hj, rfl, hB⟩ := hrel
    by_cases hlt : j < n
    · obtain ⟨b, off, rfl, hb, hcell⟩ := H1.out.at (by omega)
      obtain ⟨b2, off2, rfl, hb2, hcell2⟩ := H2.out.at (by omega)
      have c1 := stepc hB.out hb (hcell j hlt)
      have c2 := stepc hB.out hb2 (hcell2 j hlt)
      have hjn : (j : Int) < n := by omega
      generalize f j = x at *
      have hxx := bneq (a := (x : Int)) (b := x) rfl
      have hBn := Lib.hid (fun q => nextw hB.out (below_drewN wr q))
      clear hcell hcell2
      go_wp2
      go_quiet (fail)
      go_wp2
      exact ⟨⟨j + 1, by omega, by go_num, Lib.hid (hBn.out _)⟩, by simp [intOf]; omega⟩
    · obtain rfl : j = n := by omega
      go_wp2
      go_ret
      exact ⟨rfl, hB.out⟩

set_option maxHeartbeats 1000000 in
theorem clone_any {w : World} {a : Option Addr} {n c : Nat} {f : Nat → Nat} (hs : WRow w a n f) (hn : n ≤ 200000) :
    Calls Try.prog 12 #[.slice a n c] w fun e w' => ∃ (a2 : Option Addr) (c2 : Nat), e = .returned (.slice a2 n c2) ∧ Made w w' a2 n c2 f := by
  obtain ⟨i0, hi, hz0, hz1, hz2⟩ := info_parts info_u64
  by_cases hnil : n = 0 ∧ a = none
  · obtain ⟨rfl, rfl⟩ := hnil
    have heq : ∀ W, (binOp .eql 27 (.slice none 0 c) (.slice none 0 0)).run Try.prog W = .ok (.bool true) W := fun W => Lib.run_eql_slice_nil W _ _ _ _ _ _ _ Try.underlying27
    clear hs
    go_enter Try.func12, Try.ntmps12
    go_wp2
    go_ret
    exact ⟨none, 0, rfl, own_nil _ _ _, Below.refl _ _⟩
  · obtain ⟨ad, rfl⟩ : ∃ ad, a = some ad := by
      rcases hs.2 with h0 | ⟨b, off, h, -⟩
      · cases a with
        | none => exact absurd ⟨h0, rfl⟩ hnil
        | some ad => exact ⟨ad, rfl⟩
      · exact ⟨_, h⟩
    have hemp : Hid ((w.alloc (.cells #[] 22)).ownsRow w.heap.size 22 1 (.slice (some ⟨w.heap.size, 0, none⟩) 0 0) 0 []) := Lib.hid ⟨rfl, .inr ⟨w.heap.size, 0, #[], rfl, Nat.le_refl _, heap_alloc_new _ _, Nat.le_refl _, by decide, rfl, rfl⟩⟩
    have hb0 : Hid (Below w.heap.size w (w.alloc (.cells #[] 22))) := Lib.hid ((Below.refl _ _).alloc (Nat.le_refl _) _)
    have HN : Hid (∀ j u, (wl n f)[j]? = some u → (w.alloc (.cells #[] 22)).cell? (ad.add j) = some u) := Lib.hid (fun j u hv => by
      have hj := (List.getElem?_eq_some_iff.1 hv).1
      rw [wl_length] at hj
      obtain ⟨b, off, h, hbl, hc⟩ := hs.at (by omega)
      cases h
      rw [wl_get _ _ _ hj] at hv
      rw [← Option.some.inj hv, show (⟨b, off, none⟩ : Addr).add j = ⟨b, off + j, none⟩ by simp [Addr.add]]
      exact stepc hb0.out hbl (hc j hj))
    have H1 := Lib.hid (wl_one n f)
    have HL : Hid ((wl n f).length = n * 1) := Lib.hid (by simp [wl_length])
    clear hs hnil
    have heq : ∀ W, (binOp .eql 27 (.slice (some ad) n c) (.slice none 0 0)).run Try.prog W = .ok (.bool false) W := fun W => Lib.run_eql_slice_nil W _ _ _ _ _ _ _ Try.underlying27
    go_enter Try.func12, Try.ntmps12
    go_wp2_with (at_builtin; refine wpList_append_own_at _ rfl _ _ 27 rfl w.heap.size 22 i0 (.int .u64 0) 1 8 Try.underlying27 hi hz0 hz1 hz2 rfl (by decide) (.slice (some ⟨w.heap.size, 0, none⟩) 0 0) 0 [] rfl hemp.out ad n c (wl n f) rfl HL.out HN.out H1.out (by unfold maxLen; omega) (by omega) (by simp) ?_; intro v' w3 hown' hgrow hnil hloc)
    obtain ⟨a3, c3, rfl⟩ := own_slice hown'
    go_wp2
    go_ret
    rw [List.nil_append, Nat.zero_add] at hown'
    refine ⟨a3, c3, by simp, hown', ?_⟩
    exact hb0.out.grown hgrow (by simp) (fun k hk => by simp [Value.ownBlock] at hk; omega)
end Go.Proofs.Ytgbhhmmllbanlaa
