/-
  Words.
-/
import Derived.Test.YtmljpbbnllfgbaaConeA
namespace Go.Proofs.Ytmljpbbnllfgbaa
open Go.RowKit Go.Maps Num
set_option maxRecDepth 100000

/-- The words of a row of literals. -/
def wordsF (l ws : List Int) (i : Nat) : Int := wordV (l.getD i 0) ws
set_option maxHeartbeats 1000000 in
theorem Words_any {w : World} {p : Pl} {G : Gr} (hI : Is w p G) (hW : Wf G) (hm : G.nodes.length ≤ 200000) {ia : Option Addr} {ic : Nat} {ins : List Int} (hr : Row .u64 w ia G.inputs.length ins) (hw : Words ins) {a : Option Addr} {n c : Nat} {l : List Int} (hs : Row .u32 w a n l) (hl : AllThere G l) (hn : n ≤ 200000) :
    Calls Try.prog 15 #[.pointer (some ⟨p.b, 0, none⟩), .slice ia G.inputs.length ic, .slice a n c] w fun e w' => ∃ (ws : List Int) (g : Nat), e = .returned (.tuple #[.slice (some ⟨g, 0, none⟩) n n, .int .i64 0]) ∧ w'.ownsRow w.heap.size 56 1 (.slice (some ⟨g, 0, none⟩) n n) n ((Bits.row n (wordsF l ws)).map (Value.int .u64)) ∧ Val G ins ws ∧ Below w.heap.size w w' := by
  have hck := Lib.hid (ccheck_any (c := c) hI hW hm hs (fun x hx => (hl x hx).1))
  rw [chk_ok hl] at hck
  have hev := Lib.hid (fun w2 (hb : Below w.heap.size w w2) => Eval_any (cap := ic) (hI.below hb) hW hm (hr.step hb) hw)
  have HS := Lib.hid hs
  have hlen := hs.len
  have HL := Lib.hid (fun j (hj : j < n) => (hl (l.getD j 0) (by simp [List.getD, show j < l.length by omega])).1)
  obtain ⟨i0, hi, hz0, hz1, hz2⟩ := info_parts info_u64
  have hNN := hm
  generalize G.nodes.length = N at *
  generalize hil : G.inputs.length = il at *
  clear hI hW hr hs hl hlen
  go_enter Try.func15, Try.ntmps15
  go_wp2_with (first
    | (go_at_call 48; (with_reducible refine hck.out.mono ?_); rintro e w2 ⟨rfl, hB⟩; have hB2 := Lib.hid hB; have hev2 := Lib.hid (hev.out _ hB); clear hB)
    | (go_at_call 49; (with_reducible refine hev2.out.mono ?_); rintro e w3 ⟨ws, rfl, ho, hwl, hV, hB⟩; have hB3 := Lib.hid (nextw hB2.out hB); have ho := Lib.hid ho; have hV := Lib.hid hV; have hsz2 := hB2.out.size; generalize hw2 : w2.heap.size = g2 at *; clear hB)
    | (at_make; refine wpList_make_full _ rfl _ _ 26 rfl w3.heap.size 56 i0 (.int .u64 0) 1 Try.underlying26 hi hz0 hz1 .i64 .i64 n n n rfl rfl rfl rfl (by rw [hz2]; omega) (by unfold maxLen; omega) (Nat.le_refl _) ?_; intro w4 hown hg; have hB4 : Hid (Below w3.heap.size w3 w4) := Lib.hid ((Below.refl w3.heap.size w3).grown hg (Nat.le_refl _) (fun _ h => (by cases h)))))
  obtain ⟨w5, rfl⟩ : ∃ w5 : World, w5 = w4 := ⟨_, rfl⟩
  have hf0 := fillK_zero .u64 (wordsF l ws) n
  rw [hf0] at hown
  have hO0 := Lib.hid hown
  have hsz3 := hB3.out.size
  have HWS : Hid (Row .u64 w3 (some ⟨g2, 0, none⟩) N ws) := Lib.hid (Row.of_own ho.out hwl (by omega))
  clear hf0 hown hg hck hev hev2
  go_loopw [34] (fun s wr => ∃ j : Nat, j ≤ n ∧ s = .int .i64 j ∧ Hid (wr.ownsRow w3.heap.size 56 1 (.slice (some ⟨w3.heap.size, 0, none⟩) n n) n ((fillF (wordsF l ws) n j).map (Value.int .u64))) ∧ Hid (Below w3.heap.size w3 wr)) (fun s _ => n - (intOf s).toNat)
  case atStart => exact ⟨0, Nat.zero_le _, rfl, hO0, hB4⟩
  case round =>
    clear hB4 hO0
    obtain ⟨j, hj, rfl, hO, hB⟩ := hrel
    by_cases hlt : j < n
    · obtain ⟨b, off, rfl, hb, hcell⟩ := HS.out.at (by omega)
      have hcj := stepc (nextw hB3.out hB.out) hb (hcell j hlt)
      have hwa := Lib.hid (word_any (l.getD j 0) (some ⟨g2, 0, none⟩) N N ws (HL.out j hlt) wr (HWS.out.step hB.out) hV.out.words)
      have hcl := hO.out.cellAt (j := j) (by simpa using hlt)
      have hfr := hO.out.frozenAt j
      have hst := Lib.hid (hO.out.stored j (.int .u64 (wordsF l ws j)))
      have hlen := fillK_len .u64 (wordsF l ws) n j
      have hsome : (wr.cell? ⟨w3.heap.size, j, none⟩).isSome = true := by rw [hcl]; simp at hlen ⊢; omega
      obtain ⟨u, hu⟩ := Option.isSome_iff_exists.1 hsome
      have hset := Lib.hid (fillK_set .u64 (wordsF l ws) n j)
      have hwf : wordV (l.getD j 0) ws = wordsF l ws j := rfl
      rw [hwf] at hwa
      generalize wordsF l ws j = V at *
      generalize l.getD j 0 = y at *
      clear hcell hcl hsome hlen hwf
      go_wp2_with (go_at_call 50; (with_reducible refine hwa.out.mono ?_); rintro e w6 ⟨rfl, rfl⟩)
      refine ⟨⟨j + 1, by omega, by go_num, ?_, Lib.hid (hB.out.setCell (Nat.le_refl _) _)⟩, by simp [intOf]; omega⟩
      have e := hst.out.1
      rw [hset.out] at e
      exact Lib.hid e
    · obtain rfl : j = n := by omega
      go_wp2
      go_ret2
      have hO2 := hO.out
      rw [fillF_full] at hO2
      exact ⟨ws, w3.heap.size, rfl, own_base hO2 hsz3, hV.out, nextw hB3.out hB.out⟩
end Go.Proofs.Ytmljpbbnllfgbaa
