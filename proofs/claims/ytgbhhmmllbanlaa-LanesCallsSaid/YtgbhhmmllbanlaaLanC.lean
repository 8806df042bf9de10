/-
  Package lanes: Unpack.
-/
import Derived.Test.YtgbhhmmllbanlaaLanB
namespace Go.Proofs.Ytgbhhmmllbanlaa
open Go.RowKit
set_option maxRecDepth 100000

theorem sq_results2 {w : World} {b : Nat} {f : Nat → Nat} (h : Blk w b f) {fn : Func} {p q : Tmp} (hr : fn.results = #[.cell p 23, .tmp q]) (tmps : Array Value) (hp : tmps.getD p undef = .pointer (some ⟨b, 0, none⟩)) (v : Value) (hq : tmps.getD q undef = v) :
    (results fn tmps).run Try.prog w = .ok (.tuple #[.agg (sqA f), v]) w := by
  have hp' : tmps[p]?.getD undef = .pointer (some ⟨b, 0, none⟩) := by simpa using hp
  have hq' : tmps[q]?.getD undef = v := by simpa using hq
  simp [results, hr, hp', hq', asAddr, run_loadVar_row w b 23 _ _ _ _ h und_sq rfl (by rw [(zero_of_info info_sq).2, sqA_size])]

/-- A row of words laid into a square of zeros. -/
theorem Blk.wcopy {w : World} {b : Nat} (hb : Blk w b (fun _ => 0)) {ad : Option Addr} {n c : Nat} {f : Nat → Nat} (hs : WRow w ad n f) (hn : n ≤ 64) {ops : Array Oper} {rest : List Oper} {o : Oper} {a : Act} {Q : Exit → Act → World → Prop} (hgd : o.guard = none) (d s : Operand)
    (ho : o.op = .call { callee := .builtin .copy, args := #[d, s], argTypes := #[27, 27] }) (hd : a.eval d = .slice (some ⟨b, 0, none⟩) 64 64) (hx : a.eval s = .slice ad n c)
    (h : ∀ w', Blk w' b (cutAt n f) → Below b w w' → wpList Try.prog ops Q rest (a.put o.dst (.int .i64 n)) w') : wpList Try.prog ops Q (o :: rest) a w := by
  refine wpList_copy_splice hgd d s 27 27 ho 22 Try.underlying27 (by kernel_rfl) (some ⟨b, 0, none⟩) ad 64 64 n c hd hx b 0 (sqA (fun _ => 0)).toList 23 (by rw [Array.toArray_toList]; exact hb) (wl n f) (by rw [wl_length]; show n = min n 64; omega) ?_ (by rw [wl_length, Array.length_toList, sqA_size]; omega) (wl_one n f) b w (Below.refl _ _) (Nat.le_refl _) ?_
  · intro h0
    rw [wl_length] at h0
    obtain ⟨b, off, rfl, hbl, hc⟩ := hs.at h0
    refine ⟨rfl, _, rfl, fun j v hv => ?_⟩
    have hj := (List.getElem?_eq_some_iff.1 hv).1
    rw [wl_length] at hj
    rw [wl_get _ _ _ hj] at hv
    rw [← Option.some.inj hv, show (⟨b, off, none⟩ : Addr).add j = ⟨b, off + j, none⟩ by simp [Addr.add]]
    exact hc j hj
  · intro w' hh hB
    rw [wl_length]
    exact h w' (by have hh := hh.out; rw [splice_sq f hn] at hh; exact hh) hB

theorem Blk.upto {w w3 : World} {b B : Nat} {f : Nat → Nat} (h : Blk w b f) (hB : Below B w w3) (hb : b < B) : Blk w3 b f := by
  unfold Blk; rw [hB.block b hb]; exact h
theorem two_boxes {w w2 : World} {f g : Nat → Nat} (hb : Below ((w.alloc (.cells (sqA f) 23)).alloc (.cells (sqA g) 23)).heap.size ((w.alloc (.cells (sqA f) 23)).alloc (.cells (sqA g) 23)) w2) :
    Blk w2 w.heap.size f ∧ Blk w2 (w.heap.size + 1) g ∧ Below w.heap.size w w2 ∧ w.heap.size + 2 ≤ w2.heap.size := by
  have h1 := (Blk.new w f).old (.cells (sqA g) 23)
  have h2 := Blk.new (w.alloc (.cells (sqA f) 23)) g
  have h3 : Below w.heap.size w ((w.alloc (.cells (sqA f) 23)).alloc (.cells (sqA g) 23)) := ((Below.refl _ _).alloc (Nat.le_refl _) _).alloc (by simp) _
  have hs := hb.size
  refine ⟨h1.step hb, by simpa using h2.step hb, nextw h3 hb, by simpa using hs⟩

set_option maxHeartbeats 1000000 in
theorem unpack_any {w : World} {a : Option Addr} {n c : Nat} {f : Nat → Nat} (hs : WRow w a n f) (hf : n ≤ 64 → ∀ i, i < n → f i < 18446744073709551616) :
    Calls Try.prog 15 #[.slice a n c] w fun e w' =>
      e = .returned (if 1 ≤ n ∧ n ≤ 64 then .tuple #[.agg (sqA (turn (cutAt n f))), .int .i64 0] else .tuple #[.agg (sqA (fun _ => 0)), .int .i64 1]) ∧ Below w.heap.size w w' := by
  have hmv := Lib.hid (fun w2 => mayHave_any (w := w2) (c := 0) (n : Int) (WRow.nil w2 none f))
  have hle := hs.1
  rw [mayH_zero] at hmv
  have hz := (zero_of_info info_sq).1
  have hne : w.heap.size ≠ w.heap.size + 1 := by omega
  by_cases hn : 1 ≤ n ∧ n ≤ 64
  · rw [if_pos hn]
    rw [(may_iff _).2 (by omega)] at hmv
    have hcl := cutAt_lt (n := n) (f := f) (hf hn.2)
    have htn := Lib.hid (fun w => turn_any (cutAt n f) hcl w)
    have HS := Lib.hid (fun w2 (h : Below w.heap.size w w2) => hs.step h)
    have hn64 := Lib.hid hn.2
    clear hs hf
    generalize hF : cutAt n f = F at *
    generalize hG : turn F = G at *
    go_enter Try.func15, Try.ntmps15
    go_wp2_with (first
      | (go_at_call 29; (with_reducible refine (hmv.out _).mono ?_); rintro e w2 ⟨rfl, hb2⟩; have st := two_boxes hb2; clear hb2; obtain ⟨hb0, hb1, hB, hsz⟩ := st; have hR := Lib.hid (HS.out _ hB); clear hz; have hb0 := Lib.hid hb0; have hb1 := Lib.hid hb1)
      | (refine hb1.out.wcopy hR.out hn64.out rfl _ _ rfl rfl rfl ?_; rw [hF]; intro w3 hb3 hB3; have hb3 := Lib.hid hb3; have hb0' := Lib.hid (hb0.out.upto hB3 (by omega)); have hB' := hB.trans (hB3.mono (by omega)); have hs3 := hB3.size; clear hB3 hb0 hb1 hB hR)
      | (refine hb3.out.wload rfl _ rfl rfl ?_)
      | (go_at_call 9; (with_reducible refine (htn.out _).mono ?_); rintro e w4 ⟨rfl, hn4⟩; have hb4 := Lib.hid (hb0'.out.step hn4); have hB4 := nextw hB' hn4; clear hn4 hb3 hB')
      | (refine hb4.out.wstore rfl _ _ rfl rfl rfl ?_)
      )
    exact bodyPost_ret (v := .tuple #[.agg (sqA G), .int .i64 0]) (sq_results2 (hb4.out.put G) rfl _ rfl _ rfl) rfl ⟨rfl, hB4.trans (below_setRow (Nat.le_refl _) _)⟩
  · rw [if_neg hn]
    rw [show may false false (n : Int) = false by cases h : may false false (n : Int); rfl; exact absurd ((may_iff _).1 h) (by omega)] at hmv
    clear hs hf
    go_enter Try.func15, Try.ntmps15
    go_wp2_with (first
      | (go_at_call 29; (with_reducible refine (hmv.out _).mono ?_); rintro e w2 ⟨rfl, hb2⟩; have st := two_boxes hb2; clear hb2; obtain ⟨hb0, hb1, hB, hsz⟩ := st; clear hz; have hb0 := Lib.hid hb0; have hb1 := Lib.hid hb1)
      | (refine hb1.out.wload rfl _ rfl rfl ?_)
      | (refine hb0.out.wstore rfl _ _ rfl rfl rfl ?_)
      )
    exact bodyPost_ret (v := .tuple #[.agg (sqA (fun _ => 0)), .int .i64 1]) (sq_results2 (hb0.out.put _) rfl _ rfl _ rfl) rfl ⟨rfl, hB.trans (below_setRow (Nat.le_refl _) _)⟩
end Go.Proofs.Ytgbhhmmllbanlaa
