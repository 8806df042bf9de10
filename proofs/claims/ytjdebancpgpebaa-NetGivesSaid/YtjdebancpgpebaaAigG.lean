/-
  Are all literals there; a row of them put together.
-/
import Derived.Test.YtjdebancpgpebaaAigF
namespace Go.Proofs.Ytjdebancpgpebaa
open Go.RowKit Go.Maps
set_option maxRecDepth 100000

/-- Literals that are all there. -/
def AllThere (G : Gr) (l : List Int) : Prop := ∀ x ∈ l, There G x
theorem AllThere.at {G : Gr} {l : List Int} (h : AllThere G l) {i : Nat} (hi : i < l.length) : There G (l.getD i 0) := h _ (by simp [List.getD, hi])
theorem AllThere.mono {G G' : Gr} {l : List Int} (h : AllThere G l) (k : Le G G') : AllThere G' l := fun x hx => k.there (h x hx)

theorem check_any {w : World} {p : Pl} {G : Gr} (hG : Is w p G) (hW : Wf G) (hm : G.nodes.length ≤ 200000) {a : Option Addr} {n cap : Nat} {l : List Int} (hs : Row .u32 w a n l) (hl : AllThere G l) :
    Calls Try.prog 65 #[.pointer (some ⟨p.b, 0, none⟩), .slice a n cap] w fun e w' => e = .returned (.int .i64 0) ∧ Below w.heap.size w w' := by
  have hst := Lib.hid (stands_any hG.lay hW.pos)
  obtain ⟨-, -, c2, -, -, -⟩ := hG.lay.cells
  have hlt := hG.lay.lt
  have HS := Lib.hid hs
  have hn := hs.le
  have HT := Lib.hid (fun i (hi : i < n) => hl.at (i := i) (by rw [hs.len]; exact hi))
  have h0 := hW.pos
  unfold There at HT
  generalize G.nodes.length = k at *
  clear hG hW hs hl
  go_enter Try.func65, Try.ntmps65
  go_wp2_with (go_at_call 44; refine hst.out.mono ?_; rintro e w2 ⟨rfl, rfl⟩)
  go_loopw [12] (fun i wr => ∃ j : Nat, j ≤ n ∧ i = .int .i64 j ∧ Below w.heap.size w wr) (fun i _ => n - (intOf i).toNat)
  case atStart => exact ⟨0, Nat.zero_le _, rfl, Below.refl _ _⟩
  case round =>
    obtain ⟨j, hj, rfl, hB⟩ := hrel
    by_cases hjn : j < n
    · obtain ⟨b, off, rfl, hb, hc⟩ := HS.out.at (by omega)
      have hcj := (hB.cell (p := ⟨b, off + j, none⟩) hb).trans (hc j hjn)
      obtain ⟨⟨t0, t1⟩, t2⟩ := HT.out j hjn
      have d2 := stepc hB hlt c2
      generalize l.getD j 0 = x at *
      have hnode := Lib.hid (fun w => node_any x ⟨t0, t1⟩ w)
      have g0 : decide ((k : Int) ≤ x / 2) = false := by simp; omega
      clear hc
      go_wp2
      go_quiet (first | (go_at_call 12; exact Calls.quiet_of_same ((hnode.out _).mono (fun _ _ h => ⟨h.1, h.2.symm⟩))))
      go_wp2
      go_roundw
      case rel => exact ⟨j + 1, by omega, by go_num, nextw hB (below_draws wr nq)⟩
      case measure => simp [intOf]; omega
    · obtain rfl : j = n := by omega
      go_wp2
      go_ret
      exact ⟨rfl, hB⟩
end Go.Proofs.Ytjdebancpgpebaa
