/-
  slices.AppendSeq, Collect and Sorted over an iterator that reads what lay before.
-/
import Derived.Test.YtocfchgkfaogdaaShg
namespace Go.Proofs.Ytocfchgkfaogdaa
open Go.RowKit Go.Maps Go.Sort Go.Shelf
attribute [local go_sem] Oper.semAt_some
set_option maxRecDepth 100000

def SeqBP (P : Program) (F : Fence) (n : Nat) (g : Nat) (lb : Array Value) (S : List Int → Prop) (N : Nat) (w : World) : Prop :=
  ∀ (l : Nat) (J : List Int → World → Prop) (W : World), Below w.heap.size w W → AbidesFrom W.heap.size J → (∀ pre W1, J pre W1 → Below w.heap.size w W1) →
    (∀ pre x W1, J pre W1 → pre.length < N → YieldAt F (n - 1) P l #[encZ x] W1 fun e W' => e = .returned (.bool true) ∧ J (pre ++ [x]) W' ∧ KeepsWalks W1 W') →
    J [] W →
    CallsIn F n P g (#[.func (.yield l) #[] #[]] ++ lb) W fun e W' => (∃ v, e = .returned v) ∧ ∃ xs, S xs ∧ J xs W'
section
variable {P : Program} {ρ : Ren}
set_option maxHeartbeats 2000000 in
theorem appendB (L : SlLaysZI.n11 P ρ) (F : Fence) (n : Nat) (h11 : F.fn (ρ.f 11)) (hro : F.round = none) (hn : 2 ≤ n) (g : Nat) (lb : Array Value) (hFg : F.fn g) (eg : ∀ args w, (callFunc g args).run P w = .ok (.enter g args) w)
    (S : List Int → Prop) (N : Nat) (hN : N ≤ maxLen) (hNb : N * 8 ≤ 140737488355328) (w : World) (hseq : SeqBP P F (n - 1) g lb S N w) :
    CallsIn F n P (ρ.f 11) #[.slice none 0 0, .func (.func g) #[] lb] w fun e w' => ∃ (v : Value) (ss : List Int), e = .returned v ∧ S ss ∧ w'.ownsRow w.heap.size (ρ.t 26) 1 v ss.length (ss.map encZ) ∧ (v = .slice none 0 0 ↔ ss = []) ∧ Below w.heap.size w w' := by
  have h1 : 1 ≤ n := by omega
  have mixed := L.mixed; have t0 := L.t0; have a0 := L.a0; have z0 := L.z0; have v0 := L.v0; have t24 := L.t24; have a24 := L.a24; have z24 := L.z24; have v24 := L.v24; have t26 := L.t26; have a26 := L.a26; have z26 := L.z26; have v26 := L.v26; have t28 := L.t28; have a28 := L.a28; have z28 := L.z28; have v28 := L.v28
  have hne : ρ.t 24 ≠ ρ.t 26 := fun e => by have h := L.t24; rw [e, L.t26] at h; cases h
  have u0 := run_underlying L.t0; have u24 := run_underlying L.t24; have u26 := run_underlying L.t26; have u28 := run_underlying L.t28
  obtain ⟨_, _, FG⟩ := L.f11
  refine callsIn_of_wp_marks FG rfl h11 ?_ hro
  simp only [SlBodyZ.n11_ntmps ρ, List.size_toArray, List.length_cons, List.length_nil, Nat.reduceAdd, Nat.reduceSub, Array.replicate_succ, Array.replicate_zero, List.push_toArray, List.append_toArray, List.nil_append, List.cons_append]
  gi_wp2
  refine wpIn_rangeFunc ?_
  intro fn hfn
  rw [hro]
  obtain ⟨W0, hW0⟩ : ∃ W0, w.alloc (.cells #[.slice none 0 0] (ρ.t 24)) = W0 := ⟨_, rfl⟩
  have hs0 : W0.heap.size = w.heap.size + 1 := by rw [← hW0]; simp
  have hv0 : W0.heap[w.heap.size]? = some (.cells #[.slice none 0 0] (ρ.t 24) (0, 0)) := by rw [← hW0]; exact World.alloc_heap_new w _
  have hb0 : Below w.heap.size w W0 := by rw [← hW0]; exact (Below.refl _ w).alloc (Nat.le_refl _) _
  rw [hW0]
  obtain ⟨W1, hW1⟩ : ∃ W1, (W0.alloc (.deferred (some []))).alloc (.loop (AnyZI.apRec ρ fn (.func (.func g) #[] lb) w.heap.size W0.heap.size .ready none)) = W1 := ⟨_, rfl⟩
  have hold : ∀ k, k < W0.heap.size → W1.heap[k]? = W0.heap[k]? := fun k hk => by
    rw [← hW1]; exact (Below.heap_alloc _ _ k (by simp; omega)).trans (Below.heap_alloc _ _ k hk)
  have hb1 : Below w.heap.size w W1 := by rw [← hW1]; exact (hb0.alloc hb0.size _).alloc (by have := hb0.size; simp; omega) _
  have hs1 : W1.heap.size = W0.heap.size + 2 := by rw [← hW1]; simp
  have hM : AnyZI.ApAt ρ w fn (.func (.func g) #[] lb) w.heap.size (W0.heap.size + 1) W0.heap.size [] W1 :=
    ⟨⟨_, (hold w.heap.size (by omega)).trans hv0, ⟨rfl, .inl ⟨rfl, rfl⟩⟩, by simp⟩,
     by rw [← hW1]; have := World.alloc_heap_new (W0.alloc (.deferred (some []))) (.loop (AnyZI.apRec ρ fn (.func (.func g) #[] lb) w.heap.size W0.heap.size .ready none)); rwa [World.size_alloc] at this,
     by rw [← hW1]; exact (Below.heap_alloc _ _ _ (by simp)).trans (World.alloc_heap_new W0 _), hb1⟩
  refine ⟨W0.heap.size + 1, [{ target := .collected W0.heap.size, args := #[] }], W1, { target := .fn (.func g) lb, args := #[.func (.yield (W0.heap.size + 1)) #[] #[]] }, W1, g,
    #[.func (.yield (W0.heap.size + 1)) #[] #[]] ++ lb, W1, ?_, ?_, ?_, ?_, fun _ => h1, ?_⟩
  · rw [← hW1]; exact run_enterLoop_outer _ _ _ _ _
  · simp [resolve, go_sem]
  · intro f' hf'; simp [Target.leads] at hf'; subst hf'; exact hFg
  · simp [invoke, go_sem, eg]
  · refine (hseq (W0.heap.size + 1) (AnyZI.ApAt ρ w fn (.func (.func g) #[] lb) w.heap.size (W0.heap.size + 1) W0.heap.size) W1 hb1 (AnyZI.ap_abides ρ _ _ _ _ _ _ _ hb1.size) (fun pre W1 h => h.below)
      (fun pre x W hJ hl => AnyZI.apYield { L with } F (n - 1 - 1) w fn hfn _ w.heap.size (W0.heap.size + 1) W0.heap.size (by omega) (by omega) (by omega) (Nat.le_refl _) (by omega) N hN hNb pre x W hJ hl) hM).mono ?_
    rintro e W2 ⟨⟨v0, rfl⟩, ss, hS, h2⟩
    obtain ⟨v, hv, hrow, hnil⟩ := h2.box
    have hend := run_endLoop (P := P) h2.L (by simp [AnyZI.apRec])
    obtain ⟨W3, hW3⟩ : ∃ W3, W2.putObj (W0.heap.size + 1) (.loop { AnyZI.apRec ρ fn (.func (.func g) #[] lb) w.heap.size W0.heap.size .ready none with state := .exhausted }) = W3 := ⟨_, rfl⟩
    rw [hW3] at hend
    have hg3 : W2.grownBy W3 (some (W0.heap.size + 1)) := by rw [← hW3]; exact grownBy_putObj_a _ _ _
    have hv3 : W3.heap[w.heap.size]? = some (.cells #[v] (ρ.t 24) (0, 0)) := by rw [← hW3]; exact (World.putObj_heap_other (by omega)).trans hv
    have hK3 : W3.heap[W0.heap.size]? = some (.deferred (some [])) := by rw [← hW3]; exact (World.putObj_heap_other (by omega)).trans h2.K
    have hrow3 := hrow.kept hg3 (ownsRow_ne_a hrow h2.L (fun cur e => by first | cases e | exact hne (Obj.cells.inj e).2.1))
    have hb3 : Below w.heap.size w W3 := h2.below.grown hg3 h2.below.size (fun k e => by cases e; omega)
    obtain ⟨hc3, hf3⟩ := cell_of_box_a hv3
    clear hW3
    refine ⟨none, W3, hend, ?_⟩
    gi_wp2
    rw [← hs0]
    refine ⟨by simp, .inl ⟨_, _, rfl, run_takeDeferred hK3, ?_⟩⟩
    exact ⟨_, results_tmp rfl _ _ _, v, ss, rfl, hS, hrow3.kept (grownBy_putObj_a _ _ _) (ownsRow_ne_a hrow3 hK3 (fun cur e => by first | cases e | exact hne (Obj.cells.inj e).2.1)), hnil, hb3.grown (grownBy_putObj_a _ _ _) hb3.size (fun k e => by cases e; omega)⟩

end

theorem append_values {w : World} {a : Option Addr} {n c : Nat} {l0 : List Int} (h : Row .i64 w a n l0) (hn : n ≤ 1000000) :
    Calls Try.prog 44 #[.slice none 0 0, .func (.func 47) #[] #[.pointer (some ⟨w.heap.size, 0, none⟩)]] (w.alloc (.cells #[.slice a n c] 23)) fun e w' => ∃ v : Value, e = .returned v ∧ w'.ownsRow w.heap.size 3 1 v n (ints l0) ∧ Below w.heap.size w w' := by
  have hb : Below w.heap.size w (w.alloc (.cells #[.slice a n c] 23)) := (Below.refl _ _).alloc (Nat.le_refl _) _
  have hg : SeqBP Try.prog Fence.wide 1 47 #[.pointer (some ⟨w.heap.size, 0, none⟩)] (fun ss => ss = l0) n (w.alloc (.cells #[.slice a n c] 23)) :=
    values_gives (c := c) (h.step hb) hn (by simp) (by simp) Fence.wide 1 trivial rfl (Nat.le_refl _)
  have hA := appendB (ρ := sortedA_ren) { sortedA with } Fence.wide 2 trivial rfl (Nat.le_refl _) 47 #[.pointer (some ⟨w.heap.size, 0, none⟩)] trivial (enters_of Try.func47 (by kernel_rfl) rfl) _ n (by unfold maxLen; omega) (by omega) _ hg
  refine (callsIn_wide.1 hA).mono ?_
  rintro e w' ⟨v, ss, rfl, rfl, hrow, -, hb2⟩
  rw [h.len] at hrow
  exact ⟨v, rfl, own_base hrow (by simp), nextw hb hb2⟩
theorem collect_values {w : World} {a : Option Addr} {n c : Nat} {l0 : List Int} (h : Row .i64 w a n l0) (hn : n ≤ 1000000) :
    Calls Try.prog 33 #[.func (.func 47) #[] #[.pointer (some ⟨w.heap.size, 0, none⟩)]] (w.alloc (.cells #[.slice a n c] 23)) fun e w' => ∃ v : Value, e = .returned v ∧ w'.ownsRow w.heap.size 3 1 v n (ints l0) ∧ Below w.heap.size w w' := by
  have hA := Lib.hid (append_values (c := c) h hn)
  clear h
  go_enter Try.func33, Try.ntmps33
  go_wp2_with (go_at_call 44; (with_reducible refine hA.out.mono ?_); rintro e w5 ⟨v, rfl, hrow, hb⟩; have hrow := Lib.hid hrow; have hb := Lib.hid hb)
  go_ret
  exact ⟨v, rfl, hrow.out, hb.out⟩
theorem sorted_values {w : World} {a : Option Addr} {n c : Nat} {l0 : List Int} (h : Row .i64 w a n l0) (hn : n ≤ 1000000) :
    Calls Try.prog 35 #[.func (.func 47) #[] #[.pointer (some ⟨w.heap.size, 0, none⟩)]] (w.alloc (.cells #[.slice a n c] 23)) fun e w' => ∃ (a2 : Option Addr) (c2 : Nat) (ss : List Int), e = .returned (.slice a2 n c2) ∧ ss = l0.mergeSort leI ∧ w'.ownsRow w.heap.size 3 1 (.slice a2 n c2) n (ints ss) ∧ Below w.heap.size w w' := by
  have hA := Lib.hid (collect_values (c := c) h hn)
  have hl := h.len
  clear h
  go_enter Try.func35, Try.ntmps35
  go_upto_region 2 with (go_at_call 33; (with_reducible refine hA.out.mono ?_); rintro e w5 ⟨v, rfl, hrow, hb⟩)
  clear hA
  rcases hrow.2 with ⟨rfl, hz⟩ | ⟨gb, cap, cur, rfl, hbase, hgb, r1, r2, r3, r4⟩
  · subst hz
    have hl0 : l0 = [] := List.eq_nil_of_length_eq_zero hl
    subst hl0
    have hs0 : Calls Try.prog 46 #[.slice none 0 0] w5 _ := callsIn_wide.1 ((sortsA 5).2 none 0 w5)
    have hs := Lib.hid hs0
    clear hs0
    have hrow := Lib.hid hrow
    have hb := Lib.hid hb
    go_wp2_with (go_at_call 46; (with_reducible refine hs.out.mono ?_); rintro e w6 ⟨rfl, rfl⟩)
    go_ret
    exact ⟨none, 0, [], rfl, by simp, hrow.out, hb.out⟩
  · have hH : Holds encZ w5 gb 0 l0.toArray := holds_of_block_i hgb (by rw [Nat.mul_one] at r4; simpa [ints, hl] using r4)
    have hgl : gb < w5.heap.size := (Array.getElem?_eq_some_iff.1 hgb).1
    have hs0 : Calls Try.prog 46 #[.slice (some ⟨gb, 0, none⟩) l0.length cap] w5 _ := callsIn_wide.1 ((sortsA 5).1 gb 0 cap l0 w5 hH hgl (by omega))
    rw [hl] at hs0
    have hs := Lib.hid hs0
    clear hs0
    have hfin := Lib.hid (fun (k : Nat) (os : Array Obj) => (show (grow (putRow encZ (Sort.ahead w5 k) gb 0 (l0.mergeSort leI).toArray) os).ownsRow w.heap.size 3 1 (.slice (some ⟨gb, 0, none⟩) n cap) n (ints (l0.mergeSort leI)) ∧ RowKit.Below w.heap.size w (grow (putRow encZ (Sort.ahead w5 k) gb 0 (l0.mergeSort leI).toArray) os) by
      have h1 := ownsRow_sorted_i (n := k) (os := os) (ts := l0.mergeSort leI) (ss := l0) (by simp) hbase hgb (by omega) r2 r3
      rw [hl] at h1
      exact ⟨h1, hb.grown (grownBy_sorted_i _) hb.size (fun j hj => by cases hj; exact hbase)⟩))
    clear hrow hb hH hgb r4
    go_wp2_with (go_at_call 46; (with_reducible refine hs.out.mono ?_); rintro e w6 ⟨rfl, k, os, rfl⟩)
    go_ret
    exact ⟨some ⟨gb, 0, none⟩, cap, _, rfl, rfl, (hfin.out k os).1, (hfin.out k os).2⟩
end Go.Proofs.Ytocfchgkfaogdaa
