/-
  The walk over 'Turn'.
-/
import Derived.Test.YtnhpjacodhdpeaaDoorSqH
import Derived.Test.YtnhpjacodhdpeaaDoorSqT
namespace Go.Proofs.YtnhpjacodhdpeaaDoor
open Go.RowKit

set_option maxRecDepth 100000 in
set_option maxHeartbeats 1000000 in
theorem turn_any (f : Nat → Nat) (hf : ∀ i, f i < 18446744073709551616) (w : World) :
    Calls Tryd.prog 92 #[.agg (sqA f)] w fun e w' => e = .returned (.agg (sqA (turn f))) ∧ Below w.heap.size w w' := by
  obtain ⟨hz, hs⟩ := zero_of_info info_sq
  have hF := Lib.hid hf
  clear hf
  go_enter Tryd.func92, Tryd.ntmps92
  go_wp2
  go_loopw [3, 4] (fun n h wr => ∃ k : Nat, k ≤ 6 ∧ h = .int .i64 (hv k : Nat) ∧ n = .int .u64 (nv k : Nat) ∧ Hid (Blk wr w.heap.size (stepF f k)) ∧ Hid (Blk wr (w.heap.size + 1) (fun _ => 0)) ∧ Hid (Below w.heap.size w wr)) (fun _ h _ => (intOf h).toNat)
  case atStart => exact ⟨0, by omega, rfl, rfl, Lib.hid ((Blk.new w f).old _), Lib.hid (by have h := Blk.new (w.alloc (.cells (sqA f) 163)) (fun _ => 0); simpa using h), Lib.hid (((Below.refl _ _).alloc (Nat.le_refl _) _).alloc (by simp) _)⟩
  case round =>
    obtain ⟨k, hk, rfl, rfl, hb, ho, hB⟩ := hrel
    by_cases hlt : k < 6
    · have hp := half_pos (hv_half hlt)
      have hp0 : (0 : Int) < hv k := by omega
      have hd : Hid ((hv (k + 1) : Nat) = hv k / 2) := Lib.hid (hv_next k)
      have hn : Hid (nv (k + 1) = (nv k ^^^ (nv k * 2 ^ hv k % 18446744073709551616))) := Lib.hid rfl
      have hw := near_walk (x := nv k) (d := nv k) (half := hv k) (nv_lt k)
      have hl := hb.out.lt
      have hc := Lib.hid (half_any (stepF f k) (hv k) (nv (k + 1)) (stepF_lt hF.out k) (hv_half hlt) (nv_lt _) wr)
      have he : Hid (halvesN (stepF f k) (hv k) (nv (k + 1)) = stepF f (k + 1)) := Lib.hid rfl
      have hend : Hid (∃ k', k' ≤ 6 ∧ hv k' = hv (k + 1) ∧ nv k' = nv (k + 1) ∧ stepF f k' = stepF f (k + 1)) := Lib.hid ⟨k + 1, by omega, rfl, rfl, rfl⟩
      rw [← hn.out] at hw
      clear hn
      generalize hv (k + 1) = h2 at *
      generalize nv (k + 1) = n2 at *
      generalize nv k = n1 at *
      generalize stepF f (k + 1) = f2 at *
      generalize stepF f k = f1 at *
      generalize hv k = h1 at *
      clear hz hs
      go_wp2_with (first | (refine hb.out.wload rfl _ rfl rfl ?_) | (go_at_call 136; (with_reducible refine hc.out.mono ?_); rintro e w2 ⟨rfl, hn⟩; have hb2 := Lib.hid (hb.out.step hn); have ho2 := Lib.hid (ho.out.step hn); have hB2 := Lib.hid (nextw hB.out hn); clear hn) | (refine hb2.out.wstore rfl _ _ rfl rfl rfl ?_))
      obtain ⟨k', hk', e1, e2, e3⟩ := hend.out
      refine ⟨⟨k', hk', ?_, by rw [e2], Lib.hid ?_, Lib.hid ?_, Lib.hid ?_⟩, by simp [intOf]; omega⟩
      · rw [e1, hd.out]; push_cast; rfl
      · rw [e3, ← he.out]; exact hb2.out.put _
      · exact ho2.out.putOther (by omega) _
      · exact hB2.out.trans (below_setRow (Nat.le_refl _) _)
    · obtain rfl : k = 6 := by omega
      have h0 : (hv 6 : Int) = 0 := rfl
      clear hz hs
      go_wp2_with (first | (refine hb.out.wload rfl _ rfl rfl ?_) | (refine ho.out.wstore rfl _ _ rfl rfl rfl ?_))
      refine bodyPost_ret (v := .agg (sqA (stepF f 6))) ((ho.out.put _).results rfl _ rfl) rfl ⟨rfl, hB.out.trans (below_setRow (by omega) _)⟩
end Go.Proofs.YtnhpjacodhdpeaaDoor
