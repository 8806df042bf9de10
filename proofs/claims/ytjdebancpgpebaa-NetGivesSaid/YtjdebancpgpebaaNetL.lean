/-
  Literals that are not there: the graph refuses them. What a gate of two is to a netlist. The law package's own: Of, one.
-/
import Derived.Test.YtjdebancpgpebaaNetE
import Derived.Test.YtjdebancpgpebaaAigI
namespace Go.Proofs.Ytjdebancpgpebaa
open Go.RowKit Go.Maps Bits
set_option maxRecDepth 100000

theorem check_no {w : World} {p : Pl} {G : Gr} (hG : Is w p G) (hW : Wf G) {a : Option Addr} {n cap : Nat} {l : List Int} (hs : Row .u32 w a n l) (hl : ∀ x ∈ l, IsLit x) (hh : allHas G l = false) :
    Calls Try.prog 65 #[.pointer (some ⟨p.b, 0, none⟩), .slice a n cap] w fun e w' => e = .returned (.int .i64 1) ∧ Below w.heap.size w w' := by
  have hst := Lib.hid (stands_any hG.lay hW.pos)
  obtain ⟨-, -, c2, -, -, -⟩ := hG.lay.cells
  have hlt := hG.lay.lt
  have HS := Lib.hid hs
  have hn := hs.le
  have HT := Lib.hid (fun j (hj : j < n) => allHas_take G l j (by rw [hs.len]; exact hj))
  have HL := Lib.hid (fun j (hj : j < n) => hl (l.getD j 0) (by simp [List.getD, hs.len, hj]))
  have HA : Hid (allHas G (l.take n) = false) := Lib.hid (by rw [← hs.len, List.take_length]; exact hh)
  have HZ : Hid (allHas G (l.take 0) = true) := Lib.hid rfl
  have HB : Hid (∀ x, hasB G x = decide (x / 2 < (G.nodes.length : Int))) := Lib.hid (fun x => rfl)
  have h0 := hW.pos
  clear hG hW hs hl hh
  generalize G.nodes.length = k at *
  generalize allHas G = P at *
  generalize hasB G = B at *
  go_enter Try.func65, Try.ntmps65
  go_wp2_with (go_at_call 44; refine hst.out.mono ?_; rintro e w2 ⟨rfl, rfl⟩)
  go_loopw [12] (fun i wr => ∃ j : Nat, j ≤ n ∧ i = .int .i64 j ∧ Hid (Below w.heap.size w wr) ∧ Hid (P (l.take j) = true)) (fun i _ => n - (intOf i).toNat)
  case atStart => exact ⟨0, Nat.zero_le _, rfl, Lib.hid (Below.refl _ _), HZ⟩
  case round =>
    obtain ⟨j, hj, rfl, hB, ht⟩ := hrel
    by_cases hjn : j < n
    · obtain ⟨b, off, rfl, hb, hc⟩ := HS.out.at (by omega)
      have hcj := (hB.out.cell (p := ⟨b, off + j, none⟩) hb).trans (hc j hjn)
      have htk := Lib.hid (HT.out j hjn)
      have hlj := HL.out j hjn
      have hBx := Lib.hid (HB.out (l.getD j 0))
      have d2 := stepc hB.out hlt c2
      generalize l.getD j 0 = x at *
      have hnode := Lib.hid (fun w => node_any x hlj w)
      have hBn := Lib.hid (fun q => nextw hB.out (below_draws wr q))
      clear hc
      by_cases hx : x / 2 < (k : Int)
      · have g0 : decide ((k : Int) ≤ x / 2) = false := by simp; omega
        go_wp2
        go_quiet (first | (go_at_call 12; exact Calls.quiet_of_same ((hnode.out _).mono (fun _ _ h => ⟨h.1, h.2.symm⟩))))
        go_wp2
        exact ⟨⟨j + 1, by omega, by go_num, Lib.hid (hBn.out _), Lib.hid (by rw [htk.out, ht.out, hBx.out]; simp [hx])⟩, by simp [intOf]; omega⟩
      · have g0 : decide ((k : Int) ≤ x / 2) = true := by simp; omega
        go_wp2
        go_quiet (first | (go_at_call 12; exact Calls.quiet_of_same ((hnode.out _).mono (fun _ _ h => ⟨h.1, h.2.symm⟩))))
        go_wp2
        go_ret
        exact ⟨rfl, hBn.out _⟩
    · obtain rfl : j = n := by omega
      have := ht.out.symm.trans HA.out
      cases this
theorem together_no {w : World} {p : Pl} {G : Gr} (hG : Is w p G) (hW : Wf G) {a : Option Addr} {n cap : Nat} {l : List Int} (hs : Row .u32 w a n l) (hl : ∀ x ∈ l, IsLit x) (hh : allHas G l = false) (z : Int) (V : Value) :
    Calls Try.prog 54 #[.pointer (some ⟨p.b, 0, none⟩), .int .u32 z, V, .slice a n cap] w fun e w' => e = .returned (.tuple #[.int .u32 0, .int .i64 1]) ∧ Below w.heap.size w w' := by
  have hck := Lib.hid (check_no hG hW hs hl hh (cap := cap))
  clear hG hW hs hl hh
  go_enter Try.func54, Try.ntmps54
  go_wp2_with (go_at_call 65; (with_reducible refine hck.out.mono ?_); rintro e w2 ⟨rfl, hB⟩)
  go_ret2
  exact ⟨rfl, hB⟩
def NoCall (f : FuncId) : Prop := ∀ (w : World) (p : Pl) (G : Gr) (a : Option Addr) (n cap : Nat) (l : List Int), Is w p G → Wf G → Row .u32 w a n l → (∀ x ∈ l, IsLit x) → allHas G l = false →
    Calls Try.prog f #[.pointer (some ⟨p.b, 0, none⟩), .slice a n cap] w fun e w' => e = .returned (.tuple #[.int .u32 0, .int .i64 1]) ∧ Below w.heap.size w w'
theorem And_no : NoCall 31 := by
  intro w p G a n cap l hG hW hs hl hh
  have ht := Lib.hid (fun V => together_no hG hW hs hl hh (cap := cap) 1 V)
  clear hG hW hs hl hh
  go_enter Try.func31, Try.ntmps31
  go_wp2_with (go_at_call 54; (with_reducible refine (ht.out _).mono ?_); rintro e w2 ⟨rfl, hB⟩)
  go_ret2
  exact ⟨rfl, hB⟩
theorem Xor_no : NoCall 32 := by
  intro w p G a n cap l hG hW hs hl hh
  have ht := Lib.hid (fun V => together_no hG hW hs hl hh (cap := cap) 0 V)
  clear hG hW hs hl hh
  go_enter Try.func32, Try.ntmps32
  go_wp2_with (go_at_call 54; (with_reducible refine (ht.out _).mono ?_); rintro e w2 ⟨rfl, hB⟩)
  go_ret2
  exact ⟨rfl, hB⟩
/-- A gate of two, asked of a netlist's graph. -/
theorem gate_any' {f : FuncId} {T : Gr → Int → Int → Gr × Int} {z : Int} {k : Nat} (hf : ManyCall f T z) (hn : NoCall f) (hT : OpOk T k) {w : World} {q : NPl} {N : Nt} {rest : List Int} (h : NetIs w q N) (hg : Good N rest) (hm : N.g.nodes.length ≤ 190000) {a : Option Addr} {b c : Int} (hs : Row .u32 w a 2 [b, c]) (hb : IsLit b) (hc : IsLit c) (hfar : ∀ x, a = some x → ¬ q.g.has x.block) :
    Calls Try.prog f #[.pointer (some ⟨q.g.b, 0, none⟩), .slice a 2 2] w fun e w' => e = .returned (.tuple #[.int .u32 (gateN T N b c).2.1, .int .i64 (gateN T N b c).2.2]) ∧ ∃ q', NStep q w q' w' (gateN T N b c).1 := by
  have hl : ∀ x ∈ [b, c], IsLit x := by intro x hx; simp at hx; rcases hx with rfl | rfl <;> assumption
  unfold gateN
  cases hh : allHas N.g [b, c] with
  | true =>
    have hA := allHas_there hl hh
    have := hf w q.g N.g a 2 2 [b, c] h.g hg.wf hs (by omega) hfar hA (by omega)
    simp only [if_true]
    exact this.mono fun e w' ⟨he, p', hS⟩ => ⟨he, _, h.grow hS⟩
  | false =>
    have := hn w q.g N.g a 2 2 [b, c] h.g hg.wf hs hl hh
    simp only [if_neg (show ¬ (false = true) by simp)]
    exact this.mono fun e w' ⟨he, hB⟩ => ⟨he, _, NStep.of_below h hB⟩
theorem gate_good {T : Gr → Int → Int → Gr × Int} {k : Nat} (hT : OpOk T k) {N : Nt} {rest : List Int} (hg : Good N rest) (hm : N.g.nodes.length ≤ 190000) {b c : Int} (hb : IsLit b) (hc : IsLit c) : Good (gateN T N b c).1 rest ∧ (gateN T N b c).1.g.nodes.length ≤ N.g.nodes.length + k := by
  have hl : ∀ x ∈ [b, c], IsLit x := by intro x hx; simp at hx; rcases hx with rfl | rfl <;> assumption
  unfold gateN
  cases hh : allHas N.g [b, c] with
  | true =>
    have hA := allHas_there hl hh
    have g := hT N.g b c hg.wf (hA b (by simp)) (hA c (by simp)) (by omega)
    simp only [if_true]
    exact ⟨hg.grow g, g.len⟩
  | false =>
    simp only [if_neg (show ¬ (false = true) by simp)]
    exact ⟨hg, by omega⟩

/-! ### the law package's own -/
theorem one_any (x e : Int) (w : World) :
    Calls Try.prog 26 #[.int .u32 x, .int .i64 e] w fun e' w' => ∃ g : Nat, e' = .returned (.tuple #[.slice (some ⟨g, 0, none⟩) 1 1, .int .i64 e]) ∧ LRow w' (some ⟨g, 0, none⟩) 1 1 [x] ∧ Below w.heap.size w w' := by
  go_enter Try.func26, Try.ntmps26
  go_wp2
  go_ret2
  have hb : Below w.heap.size w (w.alloc (.cells #[.int .u32 x] 50)) := (Below.refl _ _).alloc (Nat.le_refl _) _
  exact ⟨w.heap.size, rfl, ⟨rfl, rfl, .inr ⟨w.heap.size, 1, #[.int .u32 x], rfl, Nat.zero_le _, Deep.blk_alloc_new _ _, Nat.le_refl _, by decide, rfl, rfl⟩⟩, hb⟩
set_option maxHeartbeats 2000000 in
theorem Of_any {w : World} {a : Option Addr} {n c : Nat} {l : List Int} (hs : Row .u32 w a n l) :
    Calls Try.prog 18 #[.slice a n c] w fun e w' => ∃ (a2 : Option Addr) (c2 : Nat), e = .returned (.slice a2 (min n 70) c2) ∧ LRow w' a2 (min n 70) c2 (l.take 70) ∧ Below w.heap.size w w' := by
  have HS := Lib.hid hs
  have hlen := hs.len
  obtain ⟨i0, hi, hz0, hz1, hz2⟩ := info_parts info_lit
  have hsu := Lib.hid (fun j (hj : j < n) => (show (l.take (j + 1)).map (Value.int .u32) = (l.take j).map (Value.int .u32) ++ [.int .u32 (l.getD j 0)] by rw [List.take_add_one, List.map_append]; simp [List.getD, show j < l.length by omega]))
  have h0 : Hid ((l.take 0).map (Value.int .u32) = []) := Lib.hid (by simp)
  have hful : Hid (l.take (min n 70) = l.take 70) := Lib.hid (by
    by_cases h : n ≤ 70
    · rw [show min n 70 = n by omega, List.take_of_length_le (by omega), List.take_of_length_le (by omega)]
    · rw [show min n 70 = 70 by omega])
  have hlt70 : Hid ((l.take 70).length = min n 70) := Lib.hid (by rw [List.length_take]; omega)
  have hle := hs.le
  clear hs
  go_enter Try.func18, Try.ntmps18
  go_wp2
  go_loopw [3, 4] (fun v s wr => ∃ j : Nat, j ≤ min n 70 ∧ s = .int .i64 j ∧ Hid (wr.ownsRow w.heap.size 50 1 v j ((l.take j).map (Value.int .u32))) ∧ Hid (Below w.heap.size w wr)) (fun _ s _ => min n 70 - (intOf s).toNat)
  case atStart => exact ⟨0, Nat.zero_le _, rfl, Lib.hid (by rw [h0.out]; exact own_nil _ _ _), Lib.hid (Below.refl _ _)⟩
  case round =>
    obtain ⟨j, hj, rfl, ho, hB⟩ := hrel
    obtain ⟨va, vc, rfl⟩ := own_slice ho.out
    by_cases hlt : j < min n 70
    · have hjn : j < n := by omega
      have hj4 : j < 70 := by omega
      obtain ⟨b, off, rfl, hb, hcell⟩ := HS.out.at (by omega)
      have hcj := stepc hB.out hb (hcell j hjn)
      have hsj := Lib.hid (hsu.out j hjn)
      have hsz := hB.out.size
      generalize l.getD j 0 = x at *
      clear hcell
      go_wp2_with (at_builtin; refine wpList_append_lies _ rfl _ _ 39 rfl w.heap.size 50 i0 (.int .u32 0) 1 4 Try.underlying39 hi hz0 hz1 hz2 rfl (by decide) (.slice va j vc) j _ rfl (ho.out.alloc _) ⟨wr.heap.size, 0, none⟩ 1 1 [.int .u32 _] rfl rfl (news1 _ _ _) (by simp [Value.oneCell']) (by decide) (by unfold maxLen; omega) (by omega) (by simp; omega) _ rfl ?_; intro g cap1 w7 hown1 hgrow1 hat1 hlt1)
      exact ⟨⟨j + 1, by omega, by go_num, Lib.hid (by rw [hsj.out]; exact hown1), Lib.hid ((hB.out.alloc hsz _).grown hgrow1 (by simp; omega) (fun k hk => own_ge ho.out k hk))⟩, by simp [intOf]; omega⟩
    · obtain rfl : j = min n 70 := by omega
      rw [hful.out] at ho
      by_cases h6 : n ≤ 70
      · have hmn : min n 70 = n := by omega
        rw [hmn] at ho hlt70 ⊢
        go_wp2
        go_ret
        exact ⟨va, vc, by rw [hmn]; rfl, by rw [hmn]; exact ⟨hlt70.out, own_base ho.out (Nat.zero_le _)⟩, hB.out⟩
      · have hmn : min n 70 = 70 := by omega
        rw [hmn] at ho hlt70 ⊢
        have hn4 : 70 < n := by omega
        go_wp2
        go_ret
        exact ⟨va, vc, by rw [hmn]; rfl, by rw [hmn]; exact ⟨hlt70.out, own_base ho.out (Nat.zero_le _)⟩, hB.out⟩
end Go.Proofs.Ytjdebancpgpebaa
