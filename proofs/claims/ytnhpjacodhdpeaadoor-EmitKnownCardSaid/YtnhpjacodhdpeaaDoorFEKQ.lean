/-
  Literals that are not there: the graph refuses them. What a gate of two is to a netlist. The law package's own: Of, one.
  Copies of netlists.
  A copy of a netlist.
  A netlist that a call has made for itself; the chapter's netlist, step by step.
  Package emit: All and Size of a well formed netlist of moderate size, in terms of its text.
-/
import Derived.Test.YtnhpjacodhdpeaaDoorFEKP
import Derived.Test.YtnhpjacodhdpeaaDoorFEKI
import Derived.Test.YtnhpjacodhdpeaaDoorFEKN
import Derived.Test.YtnhpjacodhdpeaaDoorFEKO
section
namespace Go.Proofs.YtnhpjacodhdpeaaDoor
open Go.RowKit Go.Maps Bits
set_option maxRecDepth 100000

theorem check_no {w : World} {p : Pl} {G : Gr} (hG : Is w p G) (hW : Wf G) {a : Option Addr} {n cap : Nat} {l : List Int} (hs : Row .u32 w a n l) (hl : ∀ x ∈ l, IsLit x) (hh : allHas G l = false) :
    Calls Tryd.prog 156 #[.pointer (some ⟨p.b, 0, none⟩), .slice a n cap] w fun e w' => e = .returned (.int .i64 1) ∧ Below w.heap.size w w' := by
  have hst := Lib.hid (stands_any hG.lay hW.pos)
  obtain ⟨-, -, c2, -, -, -⟩ := hG.lay.cells
  have hlt := hG.lay.lt
  have HS := Lib.hid hs
  have hn := hs.le
  have HT := Lib.hid (fun j (hj : j < n) => allHas_take G l j (by rw [hs.len]; exact hj))
  have HL := Lib.hid (fun j (hj : j < n) => hl (l.getD j 0) (by simp [List.getD, hs.len, hj]))
  have HA : Hid (allHas G (l.take n) = false) := Lib.hid (by rw [← hs.len, List.take_length]; exact hh)
  have HZ : Hid (allHas G (l.take 0) = true) := Lib.hid rfl
  have HB : Hid (∀ x, hasB G x = decide (x / 2 < (G.nodes.length : Int))) := Lib.hid (fun x => rfl)
  have h0 := hW.pos
  clear hG hW hs hl hh
  generalize G.nodes.length = k at *
  generalize allHas G = P at *
  generalize hasB G = B at *
  go_enter Tryd.func156, Tryd.ntmps156
  go_wp2_with (go_at_call 77; refine hst.out.mono ?_; rintro e w2 ⟨rfl, rfl⟩)
  go_loopw [12] (fun i wr => ∃ j : Nat, j ≤ n ∧ i = .int .i64 j ∧ Hid (Below w.heap.size w wr) ∧ Hid (P (l.take j) = true)) (fun i _ => n - (intOf i).toNat)
  case atStart => exact ⟨0, Nat.zero_le _, rfl, Lib.hid (Below.refl _ _), HZ⟩
  case round =>
    obtain ⟨j, hj, rfl, hB, ht⟩ := hrel
    by_cases hjn : j < n
    · obtain ⟨b, off, rfl, hb, hc⟩ := HS.out.at (by omega)
      have hcj := (hB.out.cell (p := ⟨b, off + j, none⟩) hb).trans (hc j hjn)
      have htk := Lib.hid (HT.out j hjn)
      have hlj := HL.out j hjn
      have hBx := Lib.hid (HB.out (l.getD j 0))
      have d2 := stepc hB.out hlt c2
      generalize l.getD j 0 = x at *
      have hnode := Lib.hid (fun w => node_any x hlj w)
      have hBn := Lib.hid (fun q => nextw hB.out (below_draws wr q))
      clear hc
      by_cases hx : x / 2 < (k : Int)
      · have g0 : decide ((k : Int) ≤ x / 2) = false := by simp; omega
        go_wp2
        go_quiet (first | (go_at_call 79; exact Calls.quiet_of_same ((hnode.out _).mono (fun _ _ h => ⟨h.1, h.2.symm⟩))))
        go_wp2
        exact ⟨⟨j + 1, by omega, by go_num, Lib.hid (hBn.out _), Lib.hid (by rw [htk.out, ht.out, hBx.out]; simp [hx])⟩, by simp [intOf]; omega⟩
      · have g0 : decide ((k : Int) ≤ x / 2) = true := by simp; omega
        go_wp2
        go_quiet (first | (go_at_call 79; exact Calls.quiet_of_same ((hnode.out _).mono (fun _ _ h => ⟨h.1, h.2.symm⟩))))
        go_wp2
        go_ret
        exact ⟨rfl, hBn.out _⟩
    · obtain rfl : j = n := by omega
      have := ht.out.symm.trans HA.out
      cases this
theorem together_no {w : World} {p : Pl} {G : Gr} (hG : Is w p G) (hW : Wf G) {a : Option Addr} {n cap : Nat} {l : List Int} (hs : Row .u32 w a n l) (hl : ∀ x ∈ l, IsLit x) (hh : allHas G l = false) (z : Int) (V : Value) :
    Calls Tryd.prog 126 #[.pointer (some ⟨p.b, 0, none⟩), .int .u32 z, V, .slice a n cap] w fun e w' => e = .returned (.tuple #[.int .u32 0, .int .i64 1]) ∧ Below w.heap.size w w' := by
  have hck := Lib.hid (check_no hG hW hs hl hh (cap := cap))
  clear hG hW hs hl hh
  go_enter Tryd.func126, Tryd.ntmps126
  go_wp2_with (go_at_call 156; (with_reducible refine hck.out.mono ?_); rintro e w2 ⟨rfl, hB⟩)
  go_ret2
  exact ⟨rfl, hB⟩
def NoCall (f : FuncId) : Prop := ∀ (w : World) (p : Pl) (G : Gr) (a : Option Addr) (n cap : Nat) (l : List Int), Is w p G → Wf G → Row .u32 w a n l → (∀ x ∈ l, IsLit x) → allHas G l = false →
    Calls Tryd.prog f #[.pointer (some ⟨p.b, 0, none⟩), .slice a n cap] w fun e w' => e = .returned (.tuple #[.int .u32 0, .int .i64 1]) ∧ Below w.heap.size w w'
theorem And_no : NoCall 82 := by
  intro w p G a n cap l hG hW hs hl hh
  have ht := Lib.hid (fun V => together_no hG hW hs hl hh (cap := cap) 1 V)
  clear hG hW hs hl hh
  go_enter Tryd.func82, Tryd.ntmps82
  go_wp2_with (go_at_call 126; (with_reducible refine (ht.out _).mono ?_); rintro e w2 ⟨rfl, hB⟩)
  go_ret2
  exact ⟨rfl, hB⟩
/-- A gate of two, asked of a netlist's graph. -/
theorem gate_any' {f : FuncId} {T : Gr → Int → Int → Gr × Int} {z : Int} {k : Nat} (hf : ManyCall f T z) (hn : NoCall f) (hT : OpOk T k) {w : World} {q : NPl} {N : Nt} {rest : List Int} (h : NetIs w q N) (hg : Good N rest) (hm : N.g.nodes.length ≤ 190000) {a : Option Addr} {b c : Int} (hs : Row .u32 w a 2 [b, c]) (hb : IsLit b) (hc : IsLit c) (hfar : ∀ x, a = some x → ¬ q.g.has x.block) :
    Calls Tryd.prog f #[.pointer (some ⟨q.g.b, 0, none⟩), .slice a 2 2] w fun e w' => e = .returned (.tuple #[.int .u32 (gateN T N b c).2.1, .int .i64 (gateN T N b c).2.2]) ∧ ∃ q', NStep q w q' w' (gateN T N b c).1 := by
  have hl : ∀ x ∈ [b, c], IsLit x := by intro x hx; simp at hx; rcases hx with rfl | rfl <;> assumption
  unfold gateN
  cases hh : allHas N.g [b, c] with
  | true =>
    have hA := allHas_there hl hh
    have := hf w q.g N.g a 2 2 [b, c] h.g hg.wf hs (by omega) hfar hA (by omega)
    simp only [if_true]
    exact this.mono fun e w' ⟨he, p', hS⟩ => ⟨he, _, h.grow hS⟩
  | false =>
    have := hn w q.g N.g a 2 2 [b, c] h.g hg.wf hs hl hh
    simp only [if_neg (show ¬ (false = true) by simp)]
    exact this.mono fun e w' ⟨he, hB⟩ => ⟨he, _, NStep.of_below h hB⟩
theorem gate_good {T : Gr → Int → Int → Gr × Int} {k : Nat} (hT : OpOk T k) {N : Nt} {rest : List Int} (hg : Good N rest) (hm : N.g.nodes.length ≤ 190000) {b c : Int} (hb : IsLit b) (hc : IsLit c) : Good (gateN T N b c).1 rest ∧ (gateN T N b c).1.g.nodes.length ≤ N.g.nodes.length + k := by
  have hl : ∀ x ∈ [b, c], IsLit x := by intro x hx; simp at hx; rcases hx with rfl | rfl <;> assumption
  unfold gateN
  cases hh : allHas N.g [b, c] with
  | true =>
    have hA := allHas_there hl hh
    have g := hT N.g b c hg.wf (hA b (by simp)) (hA c (by simp)) (by omega)
    simp only [if_true]
    exact ⟨hg.grow g, g.len⟩
  | false =>
    simp only [if_neg (show ¬ (false = true) by simp)]
    exact ⟨hg, by omega⟩

end Go.Proofs.YtnhpjacodhdpeaaDoor
end

section
namespace Go.Proofs.YtnhpjacodhdpeaaDoor
open Go.RowKit Go.Maps Bits
set_option maxRecDepth 100000

def bv0 : BV := ⟨ByteArray.empty, none, 0, 0⟩
theorem made_pair (x y : Value) (n : Nat) : (madeCells #[x, y] (n * 2)).toList = (List.replicate n [x, y]).flatten := by
  induction n with
  | zero => simp [madeCells]
  | succ n ih =>
    rw [List.replicate_succ', List.flatten_append, ← ih]
    unfold madeCells
    simp only [Array.toList_map, Array.toList_range]
    rw [show (n + 1) * 2 = n * 2 + 1 + 1 by omega, List.range_succ, List.range_succ]
    simp [show n * 2 % 2 = 0 by omega, show (n * 2 + 1) % 2 = 1 by omega]
theorem made_bv (n : Nat) : (madeCells (Value.agg #[.string ByteArray.empty, .slice none 0 0]).cells (n * 2)).toList = bvCells (List.replicate n bv0) := by
  rw [show (Value.agg #[.string ByteArray.empty, .slice none 0 0]).cells = #[.string ByteArray.empty, .slice none 0 0] from rfl, made_pair]
  unfold bvCells
  rw [List.flatMap_def]
  simp [bvc, bv0]
theorem bvCells_set (K : List BV) (i : Nat) (k : BV) (h : i < K.length) : bvCells (K.set i k) = ((bvCells K).set (i * 2) (.string k.name)).set (i * 2 + 1) (.slice k.a k.n k.c) := by
  induction K generalizing i with
  | nil => simp at h
  | cons r R ih =>
    cases i with
    | zero => simp [bvCells, bvc]
    | succ i =>
      rw [List.set_cons_succ, show bvCells (r :: R.set i k) = bvc r ++ bvCells (R.set i k) from rfl, ih i (by simpa using h), show bvCells (r :: R) = bvc r ++ bvCells R from rfl]
      rw [List.set_append_right _ _ (by simp [bvc]; omega), List.set_append_right _ _ (by simp [bvc]; omega)]
      rw [show (i + 1) * 2 - (bvc r).length = i * 2 by simp [bvc]; omega, show (i + 1) * 2 + 1 - (bvc r).length = i * 2 + 1 by simp [bvc]; omega]
theorem own_some' {w : World} {base e size k g cap : Nat} {xs : List Value} (h : w.ownsRow base e size (.slice (some ⟨g, 0, none⟩) k cap) k xs) {i : Nat} (hj : i < k * size) : ∃ u, w.cell? ⟨g, i, none⟩ = some u := by
  have hl : xs.length = k * size := h.1
  have hc := h.cellAt i hj
  exact ⟨xs[i]'(by omega), by rw [hc]; exact List.getElem?_eq_getElem _⟩
/-- A copy of buses that is being made. -/
structure CopT (w wr : World) (g n j : Nat) (L : List Bus) (K : List BV) : Prop where
  len : K.length = j
  own : wr.ownsRow w.heap.size 184 2 (.slice (some ⟨g, 0, none⟩) n n) n (bvCells (K ++ List.replicate (n - j) bv0))
  row : ∀ (i : Nat) (k : BV) (b : Bus), K[i]? = some k → L[i]? = some b → k.name = b.name ∧ LRow wr k.a k.n k.c b.lits
theorem CopT.step {w wr w2 : World} {g n j : Nat} {L : List Bus} {K : List BV} (h : CopT w wr g n j L K) (hb : Below wr.heap.size wr w2) : CopT w w2 g n j L K :=
  ⟨h.len, own_below h.own hb, fun i k b e1 e2 => ⟨(h.row i k b e1 e2).1, (h.row i k b e1 e2).2.below hb⟩⟩
theorem CopT.next {w wr : World} {g n j : Nat} {L : List Bus} {K : List BV} (h : CopT w wr g n j L K) (hj : j < n) {b : Bus} (hb : L[j]? = some b) {a : Option Addr} {c : Nat} (hl : LRow wr a b.lits.length c b.lits) :
    CopT w ((wr.setCell ⟨g, j * 2, none⟩ (.string b.name)).setCell ⟨g, j * 2 + 1, none⟩ (.slice a b.lits.length c)) g n (j + 1) L (K ++ [⟨b.name, a, b.lits.length, c⟩])
      ∧ (∀ k, k < w.heap.size → ((wr.setCell ⟨g, j * 2, none⟩ (.string b.name)).setCell ⟨g, j * 2 + 1, none⟩ (.slice a b.lits.length c)).heap[k]? = wr.heap[k]?) := by
  have h1 := h.own.stored (j * 2) (.string b.name)
  have h2 := h1.1.stored (j * 2 + 1) (.slice a b.lits.length c)
  have hg2 := h1.2.trans h2.2
  have hge := own_ge h.own g rfl
  have hglt := own_lt h.own
  have hk : Kept (fun k => k = g) wr ((wr.setCell ⟨g, j * 2, none⟩ (.string b.name)).setCell ⟨g, j * 2 + 1, none⟩ (.slice a b.lits.length c)) :=
    ⟨hg2.os, hg2.tape, hg2.output, hg2.size, fun k hlt hn => hg2.block k hlt (fun e => hn (by simpa using e))⟩
  have hN : NoLits wr (fun k => k = g) := by
    intro k cur fz e hh
    subst e
    obtain ⟨c2, hc2⟩ := own_type h.own (k := k) rfl
    rw [hc2] at hh; simp at hh
  have hlen := h.len
  have e : (K ++ List.replicate (n - j) bv0).set j ⟨b.name, a, b.lits.length, c⟩ = K ++ [⟨b.name, a, b.lits.length, c⟩] ++ List.replicate (n - (j + 1)) bv0 := by
    rw [show n - j = n - (j + 1) + 1 by omega, List.replicate_succ, List.set_append_right _ _ (by omega), hlen]
    simp
  refine ⟨⟨by simp [hlen], ?_, ?_⟩, fun k hlt => hk.block k (by omega) (by omega)⟩
  · have := h2.1
    rw [← bvCells_set _ j ⟨b.name, a, b.lits.length, c⟩ (by simp; omega), e] at this
    exact this
  · intro i k bb e1 e2
    by_cases hi : i < K.length
    · rw [List.getElem?_append_left hi] at e1
      obtain ⟨r1, r2⟩ := h.row i k bb e1 e2
      exact ⟨r1, r2.keptF hk hN⟩
    · have hi2 := (List.getElem?_eq_some_iff.1 e1).1
      simp at hi2
      have ei : i = j := by omega
      subst ei
      rw [← hlen, List.getElem?_append_right (Nat.le_refl _)] at e1
      simp at e1
      subst e1
      rw [hb] at e2
      cases e2
      exact ⟨rfl, hl.keptF hk hN⟩
set_option maxHeartbeats 1000000 in
theorem copied_any {w : World} {a : Option Addr} {n c : Nat} {L : List Bus} (h : BusRow w (.slice a n c) L) (hn : n = L.length) (hw : ∀ b ∈ L, b.lits.length ≤ 64) (hm : n ≤ 10000) :
    Calls Tryd.prog 119 #[.slice a n c] w fun e w' => ∃ (a2 : Option Addr) (c2 : Nat), e = .returned (.slice a2 n c2) ∧ BusRow w' (.slice a2 n c2) L ∧ (∀ x, a2 = some x → w.heap.size ≤ x.block) ∧ Below w.heap.size w w' := by
  obtain ⟨i0, hi, hz0, hz1, hz2⟩ := info_parts info_bus
  have HI := Lib.hid (made_bv n)
  have H := Lib.hid h
  have HN := Lib.hid hn
  have HW := Lib.hid hw
  clear h hn hw
  go_enter Tryd.func119, Tryd.ntmps119
  go_wp2_with (at_make; refine wpList_make_full _ rfl _ _ 89 rfl w.heap.size 184 i0 (.agg #[.string ByteArray.empty, .slice none 0 0]) 2 Tryd.underlying89 hi hz0 hz1 .i64 .i64 n n n rfl rfl rfl rfl (by rw [hz2]; omega) (by unfold maxLen; omega) (Nat.le_refl _) ?_; intro w3 hown hg)
  rw [HI.out] at hown
  have hb3 := Lib.hid ((Below.refl w.heap.size w).grown hg (Nat.le_refl _) (fun _ h => by cases h))
  have hF : Hid (CopT w w3 w.heap.size n 0 L []) := Lib.hid ⟨rfl, hown, fun i k b e => by simp at e⟩
  have hz3 : Hid (w.heap.size < w3.heap.size) := Lib.hid (own_lt hown)
  clear HI hown hg
  go_loopw [11] (fun i wr => ∃ (j : Nat) (K : List BV), j ≤ n ∧ i = .int .i64 j ∧ Hid (CopT w wr w.heap.size n j L K) ∧ Hid (Below w.heap.size w wr)) (fun i _ => n - (intOf i).toNat)
  case atStart => exact ⟨0, [], Nat.zero_le _, rfl, hF, hb3⟩
  case round =>
    clear hF hb3 hz3
    obtain ⟨j, K, hj, rfl, hF, hB⟩ := hrel
    by_cases hlt : j < n
    · have hjL : j < L.length := by rw [← HN.out]; exact hlt
      obtain ⟨g2, la, lc, rfl, hgl, b0, b1, hr⟩ := H.out.at hjL
      have c0 := stepc hB.out hgl b0
      have c1 := stepc hB.out hgl b1
      have hr := Lib.hid (hr.below hB.out)
      have h64 := HW.out _ (List.getElem_mem hjL)
      have hLj : L[j]? = some L[j] := List.getElem?_eq_getElem hjL
      clear b0 b1
      generalize L[j] = B at *
      have hLj := Lib.hid hLj
      have hb4 : Hid (Below wr.heap.size wr (wr.alloc (.cells #[.string B.name, .slice la B.lits.length lc] 184))) := Lib.hid ((Below.refl _ _).alloc (Nat.le_refl _) _)
      have d0 : (wr.alloc (.cells #[.string B.name, .slice la B.lits.length lc] 184)).cell? ⟨wr.heap.size, 0, none⟩ = some (.string B.name) := by simp [go_sem]
      have d1 : (wr.alloc (.cells #[.string B.name, .slice la B.lits.length lc] 184)).cell? ⟨wr.heap.size, 1, none⟩ = some (.slice la B.lits.length lc) := by simp [go_sem]
      have hz4 : wr.heap.size < (wr.alloc (.cells #[.string B.name, .slice la B.lits.length lc] 184)).heap.size := by simp
      have hcl := Lib.hid (fun w2 (hb2 : Below wr.heap.size wr w2) => clone_lit (c := lc) (hr.out.below hb2).row (by omega))
      have hFs := Lib.hid (fun w2 (hb2 : Below wr.heap.size wr w2) => hF.out.step hb2)
      have hs0 := own_some' hF.out.own (i := j * 2) (by omega)
      have hs1 := own_some' hF.out.own (i := j * 2 + 1) (by omega)
      obtain ⟨u0, hu0⟩ := hs0
      obtain ⟨u1, hu1⟩ := hs1
      have hfz := hF.out.own.frozenAt
      have hgw := own_lt hF.out.own
      have f0 := hfz (j * 2)
      have f1 := hfz (j * 2 + 1)
      clear hr hfz hF
      generalize hll : B.lits.length = ll at *
      generalize hnm : B.name = nm at *
      have hll := Lib.hid hll
      have hnm := Lib.hid hnm
      go_upto_region 5 with fail
      generalize wr.alloc (.cells #[.string nm, .slice la ll lc] 184) = w4 at *
      have e0 := stepc hb4.out hgw hu0
      have e1 := stepc hb4.out hgw hu1
      clear c0 c1
      go_region_law (first
        | (go_simp; go_at_call 125; (with_reducible refine (hcl.out _ hb4.out.drew).mono ?_); rintro e w6 ⟨a2, c2, rfl, hM⟩; have hM := Lib.hid hM; have hb5 := nextw ((Below.refl w4.heap.size w4).drew) hM.out.below; have k0 := stepc hb5 hz4 d0; have k1 := stepc hb5 hz4 d1; have m0 := stepc hb5 (Nat.lt_of_lt_of_le hgw hb4.out.size) e0; have m1 := stepc hb5 (Nat.lt_of_lt_of_le hgw hb4.out.size) e1; have hb6 := nextw hb4.out hb5; have n0 := ((bcell hb6).2 _ (j * 2) hgw).trans f0; have n1 := ((bcell hb6).2 _ (j * 2 + 1) hgw).trans f1; have hb6 := Lib.hid hb6; clear hb5))
      all_goals go_wp2
      all_goals
        have hC := hFs.out _ hb6.out
        have hnx := hC.next hlt hLj.out (a := a2) (c := c2) (by rw [hll.out]; exact hM.out.lrow)
        rw [hll.out, hnm.out] at hnx
        exact ⟨⟨j + 1, _, by omega, by go_num, Lib.hid hnx.1, Lib.hid (((nextw hB.out hb6.out).setCell (Nat.le_refl _) _).setCell (Nat.le_refl _) _)⟩, by simp [intOf]; omega⟩
    · obtain rfl : j = n := by omega
      go_wp2
      go_ret
      exact ⟨some ⟨w.heap.size, 0, none⟩, j, rfl, ⟨K, by rw [← HN.out]; have := hF.out.own; simp only [Nat.sub_self, List.replicate_zero, List.append_nil] at this; exact own_base this (Nat.zero_le _), by rw [hF.out.len, HN.out], hF.out.row⟩, fun x hx => by cases hx; exact Nat.le_refl _, hB.out⟩
end Go.Proofs.YtnhpjacodhdpeaaDoor
end

section
namespace Go.Proofs.YtnhpjacodhdpeaaDoor
open Go.RowKit Go.Maps Bits
set_option maxRecDepth 100000

/-- Where a slice of a call's own lies. -/
def NewA (W : World) (a : Option Addr) : Prop := ∀ x, a = some x → W.heap.size ≤ x.block
theorem NewA.mono {W w : World} {a : Option Addr} (h : NewA w a) (hs : W.heap.size ≤ w.heap.size) : NewA W a := fun x hx => Nat.le_trans hs (h x hx)
theorem own_newA {W w : World} {base e size n m c : Nat} {a : Option Addr} {xs : List Value} (h : w.ownsRow base e size (.slice a m c) n xs) (hb : W.heap.size ≤ base) : NewA W a := by
  intro x hx
  have := own_ge h x.block (by rw [hx]; rfl)
  omega
def FarA (a b : Option Addr) : Prop := ∀ x y, a = some x → b = some y → x.block ≠ y.block
theorem BusRow.farA {w : World} {a b : Option Addr} {n c : Nat} {L : List Bus} (h : BusRow w (.slice a n c) L) (hb : NewA w b) : FarA a b := by
  intro x y hx hy e
  obtain ⟨cur, hc⟩ := h.type (k := x.block) (by rw [hx]; rfl)
  have := (Array.getElem?_eq_some_iff.1 hc).1
  have := hb y hy
  omega
theorem FarA.symm {a b : Option Addr} (h : FarA a b) : FarA b a := fun x y hx hy e => h y x hy hx e.symm
theorem blk_some {a : Option Addr} {n c k : Nat} (h : (Value.slice a n c).ownBlock = some k) : ∃ x, a = some x ∧ x.block = k := by
  cases a with
  | none => simp [Value.ownBlock] at h
  | some x => simp [Value.ownBlock] at h; exact ⟨x, rfl, h⟩
theorem ncopy_end {w wk : World} {N : Nt} {p2 : Pl} {a r b : Option Addr} {c d e : Nat} (hB : Below w.heap.size w wk) (hG : Is wk p2 N.g) (hGn : ∀ k, p2.has k → w.heap.size ≤ k) (hI : BusRow wk (.slice a N.ins.length c) N.ins) (hIn : NewA w a)
    (hR : RegRow wk (.slice r N.regs.length d) N.regs) (hRn : NewA w r) (hO : BusRow wk (.slice b N.outs.length e) N.outs) (hOn : NewA w b) (hap : FarA a b) :
    ∃ q : NPl, q.b = wk.heap.size ∧ NetIs (wk.alloc (.cells #[.pointer (some ⟨p2.b, 0, none⟩), .string N.name, .slice a N.ins.length c, .slice r N.regs.length d, .slice b N.outs.length e] 92)) q N ∧ ∀ k, q.has k → w.heap.size ≤ k := by
  have hb1 : ∀ o, Below wk.heap.size wk (wk.alloc o) := fun o => (Below.refl _ _).alloc (Nat.le_refl _) _
  refine ⟨⟨wk.heap.size, p2, .slice a N.ins.length c, .slice r N.regs.length d, .slice b N.outs.length e⟩, rfl, ⟨Deep.blk_alloc_new _ _, hG.below (hb1 _), hI.below (hb1 _), own_below hR (hb1 _), hO.below (hb1 _), fun k h1 h2 => ?_⟩, fun k hk => ?_⟩
  · obtain ⟨x, hx, e1⟩ := blk_some h1
    obtain ⟨y, hy, e2⟩ := blk_some h2
    exact hap x y hx hy (e1.trans e2.symm)
  · rcases hk with rfl | hk | hk | hk | hk
    · exact hB.size
    · exact hGn k hk
    · obtain ⟨x, hx, rfl⟩ := blk_some hk; exact hIn x hx
    · obtain ⟨x, hx, rfl⟩ := blk_some hk; exact hRn x hx
    · obtain ⟨x, hx, rfl⟩ := blk_some hk; exact hOn x hx

set_option maxHeartbeats 4000000 in
theorem NCopy_any {w : World} {q : NPl} {N : Nt} {rest : List Int} (h : NetIs w q N) (hg : Good N rest) (hm : N.g.nodes.length ≤ 190000) (hi : N.ins.length ≤ 10000) (hr : N.regs.length ≤ 10000) (ho : N.outs.length ≤ 10000) :
    Calls Tryd.prog 74 #[.pointer (some ⟨q.b, 0, none⟩)] w fun e w' => ∃ q2 : NPl, e = .returned (.pointer (some ⟨q2.b, 0, none⟩)) ∧ NetIs w' q2 N ∧ Below w.heap.size w w' ∧ ∀ k, q2.has k → w.heap.size ≤ k := by
  have hst := Lib.hid (nstands_any h hg.wf.pos)
  obtain ⟨ia, ic, ra, rc, oa, oc, e1, e2, e3, c0, c1, c2, c3, c4, -⟩ := h.cells
  have hlt := h.lt
  have hIr := h.ins
  rw [e1] at hIr
  have hOr := h.outs
  rw [e3] at hOr
  have hRr := h.regs
  rw [e2] at hRr
  have hKG := Lib.hid (fun wk (hb : Below w.heap.size w wk) => (CpQ (Copy_any (h.g.below hb) hg.wf (by omega)) (fun e w2 => ∃ p2 : Pl, e = .returned (.pointer (some ⟨p2.b, 0, none⟩)) ∧ Is w2 p2 N.g ∧ (∀ k, p2.has k → w.heap.size ≤ k) ∧ Below wk.heap.size wk w2) (fun _ _ ⟨p2, he, h1, h2, h3⟩ => ⟨p2, he, h1, fun k hk => Nat.le_trans hb.size (h3 k hk), h2⟩)))
  have hKI := Lib.hid (fun wk (hb : Below w.heap.size w wk) => copied_any (hIr.below hb) rfl (fun b hb => (hg.ins.wide b hb).2) hi)
  have hKO := Lib.hid (fun wk (hb : Below w.heap.size w wk) => copied_any (hOr.below hb) rfl (fun b hb => (hg.outs.wide b hb).2) ho)
  have hKR := Lib.hid (fun wk (hb : Below w.heap.size w wk) => (CpQ (clone_reg (own_below hRr hb) rfl (by omega)) (fun e w2 => ∃ (a2 : Option Addr) (c2 : Nat), e = .returned (.slice a2 N.regs.length c2) ∧ RegRow w2 (.slice a2 N.regs.length c2) N.regs ∧ NewA w a2 ∧ Below wk.heap.size wk w2) (fun _ _ ⟨a2, c2, he, h1, h2⟩ => ⟨a2, c2, he, own_base h1 (Nat.zero_le _), own_newA h1 hb.size, h2⟩)))
  have hend := Lib.hid (fun wk p2 a r b c d e (h1 : Below w.heap.size w wk) hG hGn hI hIn hR hRn hO hOn hap => ncopy_end (N := N) (p2 := p2) (a := a) (r := r) (b := b) (c := c) (d := d) (e := e) h1 hG hGn hI hIn hR hRn hO hOn hap)
  have hKeep := Lib.hid (fun (wk w2 : World) (hb : Below w.heap.size w wk) (hb2 : Below wk.heap.size wk w2) (o : Nat) (v : Value) (h : wk.cell? ⟨q.b, o, none⟩ = some v) => stepc hb2 (Nat.lt_of_lt_of_le hlt hb.size) h)
  have I : Below w.heap.size w w.drew := (Below.refl _ _).drew
  clear h hg hIr hOr hRr e1 e2 e3 hlt hm
  generalize hni : N.ins.length = ni at *
  generalize hnr : N.regs.length = nr at *
  generalize hno : N.outs.length = no at *
  generalize hnn : N.name = nm at *
  generalize q.g.b = gb at *
  clear hni hnr hno hnn
  go_enter Tryd.func74, Tryd.ntmps74
  go_upto_region 3 with (go_at_call 108; (with_reducible refine hst.out.mono ?_); rintro e w2 ⟨rfl, rfl⟩)
  clear hst
  go_region_held3 (fun w' => w'.cell? ⟨q.b, 0, none⟩ = some (.pointer (some ⟨gb, 0, none⟩)) ∧ w'.cell? ⟨q.b, 1, none⟩ = some (.string nm) ∧ w'.cell? ⟨q.b, 2, none⟩ = some (.slice ia ni ic) ∧ w'.cell? ⟨q.b, 3, none⟩ = some (.slice ra nr rc) ∧ w'.cell? ⟨q.b, 4, none⟩ = some (.slice oa no oc)) (go_keep)
    (first
      | (go_at_call 118; (with_reducible refine (hKG.out _ I).mono ?_); rintro e w2 ⟨p2, rfl, hG, hGn, hb⟩; have hG := Lib.hid hG; have hGn := Lib.hid hGn; (first | (have h1 := Lib.hid (hG.out.below hb); clear hG; have hG := h1; clear h1) | skip); (first | (have h1 := Lib.hid (hI.out.below hb); clear hI; have hI := h1; clear h1) | skip); (first | (have h1 := Lib.hid (own_below hR.out hb); clear hR; have hR := h1; clear h1) | skip); (first | (have h1 := Lib.hid (hO.out.below hb); clear hO; have hO := h1; clear h1) | skip); have q0 := hKeep.out _ _ I hb 0 _ c0; have q1 := hKeep.out _ _ I hb 1 _ c1; have q2 := hKeep.out _ _ I hb 2 _ c2; have q3 := hKeep.out _ _ I hb 3 _ c3; have q4 := hKeep.out _ _ I hb 4 _ c4; have I2 := nextw I hb; clear I hb c0 c1 c2 c3 c4; have I := I2; have c0 := q0; have c1 := q1; have c2 := q2; have c3 := q3; have c4 := q4; clear I2 q0 q1 q2 q3 q4)
      | (go_at_call 120; (with_reducible refine (hKR.out _ I).mono ?_); rintro e w2 ⟨a5, c5, rfl, hR, hRn, hb⟩; have hR := Lib.hid hR; have hRn := Lib.hid hRn; (first | (have h1 := Lib.hid (hG.out.below hb); clear hG; have hG := h1; clear h1) | skip); (first | (have h1 := Lib.hid (hI.out.below hb); clear hI; have hI := h1; clear h1) | skip); (first | (have h1 := Lib.hid (own_below hR.out hb); clear hR; have hR := h1; clear h1) | skip); (first | (have h1 := Lib.hid (hO.out.below hb); clear hO; have hO := h1; clear h1) | skip); have q0 := hKeep.out _ _ I hb 0 _ c0; have q1 := hKeep.out _ _ I hb 1 _ c1; have q2 := hKeep.out _ _ I hb 2 _ c2; have q3 := hKeep.out _ _ I hb 3 _ c3; have q4 := hKeep.out _ _ I hb 4 _ c4; have I2 := nextw I hb; clear I hb c0 c1 c2 c3 c4; have I := I2; have c0 := q0; have c1 := q1; have c2 := q2; have c3 := q3; have c4 := q4; clear I2 q0 q1 q2 q3 q4)
      | (go_at_call 119; (with_reducible refine (hKI.out _ I).mono ?_); rintro e w2 ⟨a6, c6, rfl, hI, hIn, hb⟩; (first | have hap := Lib.hid (hO.out.farA hIn).symm | skip); have hI := Lib.hid hI; have hIn := Lib.hid (NewA.mono hIn I.size); (first | (have h1 := Lib.hid (hG.out.below hb); clear hG; have hG := h1; clear h1) | skip); (first | (have h1 := Lib.hid (hI.out.below hb); clear hI; have hI := h1; clear h1) | skip); (first | (have h1 := Lib.hid (own_below hR.out hb); clear hR; have hR := h1; clear h1) | skip); (first | (have h1 := Lib.hid (hO.out.below hb); clear hO; have hO := h1; clear h1) | skip); have q0 := hKeep.out _ _ I hb 0 _ c0; have q1 := hKeep.out _ _ I hb 1 _ c1; have q2 := hKeep.out _ _ I hb 2 _ c2; have q3 := hKeep.out _ _ I hb 3 _ c3; have q4 := hKeep.out _ _ I hb 4 _ c4; have I2 := nextw I hb; clear I hb c0 c1 c2 c3 c4; have I := I2; have c0 := q0; have c1 := q1; have c2 := q2; have c3 := q3; have c4 := q4; clear I2 q0 q1 q2 q3 q4)
      | (go_at_call 119; (with_reducible refine (hKO.out _ I).mono ?_); rintro e w2 ⟨a7, c7, rfl, hO, hOn, hb⟩; (first | have hap := Lib.hid (hI.out.farA hOn) | skip); have hO := Lib.hid hO; have hOn := Lib.hid (NewA.mono hOn I.size); (first | (have h1 := Lib.hid (hG.out.below hb); clear hG; have hG := h1; clear h1) | skip); (first | (have h1 := Lib.hid (hI.out.below hb); clear hI; have hI := h1; clear h1) | skip); (first | (have h1 := Lib.hid (own_below hR.out hb); clear hR; have hR := h1; clear h1) | skip); (first | (have h1 := Lib.hid (hO.out.below hb); clear hO; have hO := h1; clear h1) | skip); have q0 := hKeep.out _ _ I hb 0 _ c0; have q1 := hKeep.out _ _ I hb 1 _ c1; have q2 := hKeep.out _ _ I hb 2 _ c2; have q3 := hKeep.out _ _ I hb 3 _ c3; have q4 := hKeep.out _ _ I hb 4 _ c4; have I2 := nextw I hb; clear I hb c0 c1 c2 c3 c4; have I := I2; have c0 := q0; have c1 := q1; have c2 := q2; have c3 := q3; have c4 := q4; clear I2 q0 q1 q2 q3 q4))
  all_goals go_wp2
  all_goals go_ret
  all_goals
    obtain ⟨q2, e1, h1, h2⟩ := hend.out _ _ _ _ _ _ _ _ I hG.out hGn.out hI.out hIn.out hR.out hRn.out hO.out hOn.out hap.out
    exact ⟨q2, by rw [e1]; rfl, h1, I.alloc I.size _, h2⟩
end Go.Proofs.YtnhpjacodhdpeaaDoor
end

section
namespace Go.Proofs.YtnhpjacodhdpeaaDoor
open Go.RowKit Go.Maps Bits
set_option maxRecDepth 100000

structure AtN (w0 : World) (B C : Nat) (w : World) (q : NPl) (N : Nt) : Prop where
  is : NetIs w q N
  b : q.b = B
  gb : q.g.b = C
  out : ∀ k, q.has k → w0.heap.size ≤ k
  below : Below w0.heap.size w0 w
theorem AtN.step {w0 w w2 : World} {B C : Nat} {q : NPl} {N : Nt} (h : AtN w0 B C w q N) (hb : Below w.heap.size w w2) : AtN w0 B C w2 q N :=
  ⟨h.is.below hb, h.b, h.gb, h.out, nextw h.below hb⟩
theorem AtN.next {w0 w w2 : World} {B C : Nat} {q q' : NPl} {N N' : Nt} (h : AtN w0 B C w q N) (hS : NStep q w q' w2 N') : AtN w0 B C w2 q' N' :=
  ⟨hS.is, hS.b.trans h.b, hS.gb.trans h.gb, fun k hk => by
    rcases hS.new k hk with h1 | h1
    · exact h.out k h1
    · exact Nat.le_trans h.below.size h1, h.below.trans (hS.kept.below h.out h.below.size)⟩
theorem AtN.cells {w0 w : World} {B C : Nat} {q : NPl} {N : Nt} (h : AtN w0 B C w q N) : w.cell? ⟨B, 0, none⟩ = some (.pointer (some ⟨C, 0, none⟩)) ∧ B < w.heap.size := by
  obtain ⟨-, -, -, -, -, -, -, -, -, c0, -⟩ := h.is.cells
  rw [h.b, h.gb] at c0
  exact ⟨c0, World.block_lt_of_cell? w _ c0⟩
theorem AtN.new (w0 : World) {w : World} (h0 : Below w0.heap.size w0 w) (F H : Bool) {s : ByteArray} (hs : mayName s = true) :
    Calls Tryd.prog 37 #[.string s, .agg #[.bool F, .bool H]] w fun e w' => ∃ (q : NPl) (B C : Nat), e = .returned (.tuple #[.pointer (some ⟨B, 0, none⟩), .int .i64 0]) ∧ AtN w0 B C w' q ⟨newG F H, s, [], [], []⟩ :=
  (New_ok F H hs w).mono fun e w' ⟨q, he, hI, hB, hout⟩ => ⟨q, q.b, q.g.b, he, hI, rfl, rfl, fun k hk => Nat.le_trans h0.size (hout k hk), nextw h0 hB⟩

abbrev sTop : ByteArray := { data := #[116, 111, 112] }
abbrev sA : ByteArray := { data := #[97] }
abbrev sX : ByteArray := { data := #[120] }
theorem top_may : mayName sTop = true := by decide
def t0 : Nt := ⟨newG false false, sTop, [], [], []⟩
def t1 : Nt := ⟨inputsN (newG false false) 2, sTop, [⟨sA, [2, 4]⟩], [], []⟩
def t2 : Nt := ⟨inputsN (newG false false) 3, sTop, [⟨sA, [2, 4]⟩], [⟨6, 0, 0, true⟩], []⟩
def t3 : Nt := { t2 with g := (gateG t2.g 2 6).1 }
def t4 : Nt := { t3 with regs := [⟨6, 8, 1, true⟩] }
def t5 : Nt := { t4 with outs := [⟨sX, [9]⟩] }
theorem t0_good : Good t0 [] := Good.new false false top_may
theorem e1 : addIn t0 sA 2 = (t1, [2, 4], 0) := by rfl
theorem e2 : addReg t1 true = (t2, 6) := by rfl
theorem e3 : gateN andG t2 2 6 = (t3, 8, 0) := by rfl
theorem e4 : setReg t3 6 8 1 = (t4, 0) := by rfl
theorem e5 : addOut t4 sX [9] = (t5, 0) := by rfl
theorem lit2 : IsLit 2 := by unfold IsLit; omega
theorem lit6 : IsLit 6 := by unfold IsLit; omega
theorem lit8 : IsLit 8 := by unfold IsLit; omega
theorem lit1 : IsLit 1 := by unfold IsLit; omega
theorem lit9 : IsLit 9 := by unfold IsLit; omega
theorem t1_good : Good t1 [] := by have := t0_good.addIn sA 2; rw [e1] at this; exact this
theorem t2_good : Good t2 [] := by have := t1_good.addReg true; rw [e2] at this; exact this
theorem t3_good : Good t3 [] := by have := (gate_good and_ok t2_good (by decide) lit2 lit6).1; rw [e3] at this; exact this
theorem t4_good : Good t4 [] := by have := t3_good.setReg 6 8 1 lit8 lit1; rw [e4] at this; exact this
theorem t5_good : Good t5 [] := by have := t4_good.addOut sX [9] (by intro x hx; simp at hx; subst hx; exact lit9); rw [e5] at this; exact this
theorem t6_good : Good { t5 with g := inputG t5.g } [10] := t5_good.input
/-- .. with a row of literals beside it. -/
structure AtL (w0 : World) (B C : Nat) (a : Option Addr) (n c : Nat) (l : List Int) (w : World) (q : NPl) (N : Nt) : Prop where
  at_ : AtN w0 B C w q N
  row : LRow w a n c l
theorem AtL.step {w0 w w2 : World} {B C : Nat} {a : Option Addr} {n c : Nat} {l : List Int} {q : NPl} {N : Nt} (h : AtL w0 B C a n c l w q N) (hb : Below w.heap.size w w2) : AtL w0 B C a n c l w2 q N := ⟨h.at_.step hb, h.row.below hb⟩
theorem AtL.next {w0 w w2 : World} {B C : Nat} {a : Option Addr} {n c : Nat} {l : List Int} {q q' : NPl} {N N' : Nt} (h : AtL w0 B C a n c l w q N) (hS : NStep q w q' w2 N') : AtL w0 B C a n c l w2 q' N' := ⟨h.at_.next hS, h.row.keptF hS.kept h.at_.is.noLits⟩
theorem AtN.addIn {w0 w : World} {B C : Nat} {q : NPl} {N N' : Nt} {l : List Int} {k : Int} {s : ByteArray} (h : AtN w0 B C w q N) (hW : Wf N.g) (hm : N.g.nodes.length ≤ 190000) (ho : N.ins.length ≤ 10000) (e : addIn N s k = (N', l, 0)) :
    Calls Tryd.prog 80 #[.pointer (some ⟨B, 0, none⟩), .string s, .int .i64 k] w fun e w' => ∃ (a : Option Addr) (c : Nat) (q' : NPl), e = .returned (.tuple #[.slice a l.length c, .int .i64 0]) ∧ AtL w0 B C a l.length c l w' q' N' := by
  have := AddIn_any h.is hW hm ho s k
  rw [e, h.b] at this
  exact this.mono fun _ w' ⟨a, c, he, hl, q', hS⟩ => ⟨a, c, q', he, h.next hS, hl⟩
theorem AtL.addReg {w0 w : World} {B C : Nat} {a : Option Addr} {n c : Nat} {l : List Int} {q : NPl} {N N' : Nt} {x : Int} {i : Bool} (h : AtL w0 B C a n c l w q N) (hW : Wf N.g) (hm : N.g.nodes.length ≤ 190000) (hr : N.regs.length ≤ 10000) (e : addReg N i = (N', x)) :
    Calls Tryd.prog 81 #[.pointer (some ⟨B, 0, none⟩), .bool i] w fun e w' => ∃ q' : NPl, e = .returned (.tuple #[.int .u32 x, .int .i64 0]) ∧ AtL w0 B C a n c l w' q' N' := by
  have := AddReg_any h.at_.is hW hm hr i
  rw [e, h.at_.b] at this
  have hx : 2 * (N.g.nodes.length : Int) = x := by have := congrArg Prod.snd e; exact this
  rw [hx] at this
  exact this.mono fun _ w' ⟨he, q', hS⟩ => ⟨q', he, h.next hS⟩
theorem AtL.and {w0 w : World} {B C : Nat} {a : Option Addr} {n c : Nat} {l : List Int} {q : NPl} {N N' : Nt} {x y z : Int} (h : AtL w0 B C a n c l w q N) {rest : List Int} (hg : Good N rest) (hm : N.g.nodes.length ≤ 190000) (hx : IsLit x) (hy : IsLit y) (e : gateN andG N x y = (N', z, 0)) :
    Calls Tryd.prog 82 #[.pointer (some ⟨C, 0, none⟩), .slice (some ⟨w.heap.size, 0, none⟩) 2 2] (w.alloc (.cells #[.int .u32 x, .int .u32 y] 94)) fun e w' => ∃ q' : NPl, e = .returned (.tuple #[.int .u32 z, .int .i64 0]) ∧ AtL w0 B C a n c l w' q' N' := by
  have hb : Below w.heap.size w (w.alloc (.cells #[.int .u32 x, .int .u32 y] 94)) := (Below.refl _ _).alloc (Nat.le_refl _) _
  have h1 := h.step hb
  have := gate_any' And_any And_no and_ok h1.at_.is hg hm (row2 w x y 94) hx hy (fun u hu hp => by cases hu; have := h.at_.is.g.has_lt (k := w.heap.size) hp; omega)
  rw [e, h.at_.gb] at this
  exact this.mono fun _ w' ⟨he, q', hS⟩ => ⟨q', he, h1.next hS⟩
theorem AtL.setReg {w0 w : World} {B C : Nat} {a : Option Addr} {n c : Nat} {l : List Int} {q : NPl} {N N' : Nt} {x d en r : Int} (h : AtL w0 B C a n c l w q N) (hW : Wf N.g) (hd : IsLit d) (hen : IsLit en) (e : setReg N x d en = (N', r)) :
    Calls Tryd.prog 83 #[.pointer (some ⟨B, 0, none⟩), .int .u32 x, .int .u32 d, .int .u32 en] w fun e w' => ∃ q' : NPl, e = .returned (.int .i64 r) ∧ AtL w0 B C a n c l w' q' N' := by
  have := SetReg_any h.at_.is hW x d en hd hen
  rw [e, h.at_.b] at this
  exact this.mono fun _ w' ⟨he, q', hS⟩ => ⟨q', he, h.next hS⟩
theorem AtL.addOut1 {w0 w : World} {B C : Nat} {a : Option Addr} {n c : Nat} {l : List Int} {q : NPl} {N N' : Nt} {x r : Int} {s : ByteArray} (h : AtL w0 B C a n c l w q N) (hW : Wf N.g) (ho : N.outs.length ≤ 10000) (hx : IsLit x) (e : addOut N s [x] = (N', r)) :
    Calls Tryd.prog 84 #[.pointer (some ⟨B, 0, none⟩), .string s, .slice (some ⟨w.heap.size, 0, none⟩) 1 1] (w.alloc (.cells #[.int .u32 x] 94)) fun e w' => ∃ q' : NPl, e = .returned (.int .i64 r) ∧ AtL w0 B C a n c l w' q' N' := by
  have hb : Below w.heap.size w (w.alloc (.cells #[.int .u32 x] 94)) := (Below.refl _ _).alloc (Nat.le_refl _) _
  have h1 := h.step hb
  have := AddOut_any h1.at_.is hW ho s (c := 1) (row1 w x 94) (by intro y hy; simp at hy; subst hy; exact hx)
  rw [e, h.at_.b] at this
  exact this.mono fun _ w' ⟨he, q', hS⟩ => ⟨q', he, h1.next hS⟩
theorem AtN.check {w0 w : World} {B C : Nat} {q : NPl} {N : Nt} (h : AtN w0 B C w q N) {rest : List Int} (hg : Good N rest) (hS : Small N) {v : Int} (hv : ckV rest = v) :
    Calls Tryd.prog 71 #[.pointer (some ⟨B, 0, none⟩)] w fun e w' => e = .returned (.int .i64 v) ∧ Below w.heap.size w w' := by
  have := Check_any h.is hg (by have := hS.g; omega) (by have := hS.ins; omega) (by have := hS.regs; omega) (by have := hS.outs; omega)
  rw [h.b, hv] at this
  exact this
theorem AtL.input {w0 w : World} {B C : Nat} {a : Option Addr} {n c : Nat} {l : List Int} {q : NPl} {N N' : Nt} {x : Int} (h : AtL w0 B C a n c l w q N) (hW : Wf N.g) (hm : N.g.nodes.length ≤ 190000) (hx : 2 * (N.g.nodes.length : Int) = x) (hN : { N with g := inputG N.g } = N') :
    Calls Tryd.prog 38 #[.pointer (some ⟨C, 0, none⟩)] w fun e w' => ∃ q' : NPl, e = .returned (.tuple #[.int .u32 x, .int .i64 0]) ∧ AtL w0 B C a n c l w' q' N' := by
  have := Input_any h.at_.is.g hW (by omega)
  rw [show q.g.b = C from h.at_.gb, hx] at this
  subst hN
  exact this.mono fun _ w' ⟨he, p', hS⟩ => ⟨_, he, h.next (h.at_.is.grow hS)⟩
theorem small_t {N : Nt} (h : decide (N.g.nodes.length ≤ 180000) && (decide (N.ins.length ≤ 9000) && (decide (N.regs.length ≤ 9000) && decide (N.outs.length ≤ 9000))) = true) : Small N := by
  simp at h; exact ⟨h.1, h.2.1, h.2.2.1, h.2.2.2⟩

end Go.Proofs.YtnhpjacodhdpeaaDoor
end

section
namespace Go.Proofs.YtnhpjacodhdpeaaDoor
open Go.RowKit Go.Maps Bits Go.Shelf
set_option maxRecDepth 100000
set_option linter.unusedVariables false

theorem getD_mem {l : List Int} (P : Int → Prop) (h0 : P 0) (h : ∀ x ∈ l, P x) (i : Nat) : P (l.getD i 0) := by
  by_cases hi : i < l.length
  · rw [List.getD_eq_getElem?_getD, List.getElem?_eq_getElem hi]
    exact h _ (List.getElem_mem hi)
  · rw [List.getD_eq_getElem?_getD, List.getElem?_eq_none (by omega)]
    exact h0
theorem inLits_lit {N : Nt} {rest : List Int} (hg : Good N rest) (hS : Small N) {x : Int} (hx : x ∈ takenN N) : 0 ≤ x ∧ x < 4294967296 := by
  have h1 : x ∈ inLits N.g := hg.drv.mem_iff.1 (List.mem_append_left _ hx)
  obtain ⟨v, hv, rfl⟩ := List.mem_map.1 h1
  obtain ⟨k, hk⟩ := List.getElem?_of_mem hv
  obtain ⟨i, rfl, h0, n, hn, -⟩ := hg.wf.ins k v hk
  have := (List.getElem?_eq_some_iff.1 hn).1
  have := hS.g
  omega
theorem EmOk.of {N : Nt} {rest : List Int} (hg : Good N rest) (hS : Small N) : EmOk N := by
  have hin : ∀ b ∈ N.ins, ∀ x ∈ b.lits, x ∈ takenN N := fun b hb x hx => List.mem_append_left _ (List.mem_flatMap.2 ⟨b, hb, hx⟩)
  refine ⟨hg.wf, ?_, ?_, ?_, ?_, ?_, fun b hb => ⟨(hg.ins.wide b hb).2, fun i => ?_, ?_⟩, fun b hb => ⟨(hg.outs.wide b hb).2, fun i => ?_, ?_⟩, fun r hr => ⟨?_, (hg.regT r hr).1.1, (hg.regT r hr).2.1⟩⟩
  · have := hS.g; omega
  · have := mayName_size hg.name; omega
  · have := hS.ins; omega
  · have := hS.regs; omega
  · have := hS.outs; omega
  · exact getD_mem (fun x => 0 ≤ x ∧ x < 4294967296) (by omega) (fun x hx => inLits_lit hg hS (hin b hb x hx)) i
  · have := mayName_size (hg.ins.name b hb); omega
  · exact getD_mem (fun x => 0 ≤ x ∧ x < 4294967296) (by omega) (fun x hx => (hg.outT b hb x hx).1) i
  · have := mayName_size (hg.outs.name b hb); omega
  · exact inLits_lit hg hS (List.mem_append_right _ (List.mem_map.2 ⟨r, hr, rfl⟩))
theorem spellS_size (xs : List ByteArray) (h : ∀ x ∈ xs, x.size ≤ 1000) : (spellS xs).size ≤ 1001 * xs.length := by
  have h1 := join_len (xs.map (·.data.toList)) 1000 (fun y hy => by
    obtain ⟨x, hx, rfl⟩ := List.mem_map.1 hy
    exact h x hx)
  rw [List.length_map] at h1
  exact h1
theorem decS_size {x : Int} (h : 0 ≤ x ∧ x < 4294967296) : (decS x).size ≤ 1000 := decS_len x h.1 (by omega)
theorem busS_size {s : ByteArray} {b : Bus} (hs : s.size ≤ 1000) (h : b.lits.length ≤ 64 ∧ (∀ i, 0 ≤ b.lits.getD i 0 ∧ b.lits.getD i 0 < 4294967296) ∧ b.name.size ≤ 1000) : (busS s b).size ≤ 1000000 := by
  have h1 := spellS_size ([s, b.name] ++ (List.range b.lits.length).map (fun i => decS (b.lits.getD i 0))) (fun x hx => by
    rcases List.mem_append.1 hx with hx | hx
    · simp at hx
      rcases hx with rfl | rfl
      · exact hs
      · exact h.2.2
    · obtain ⟨i, -, rfl⟩ := List.mem_map.1 hx
      exact decS_size (h.2.1 i))
  have h2 : ([s, b.name] ++ (List.range b.lits.length).map (fun i => decS (b.lits.getD i 0))).length ≤ 66 := by simp; omega
  show (spellS _).size ≤ _
  have := Nat.mul_le_mul_left 1001 h2
  omega
theorem nodeAt_lits {G : Gr} (hW : Wf G) (hm : G.nodes.length ≤ 200000) {j : Nat} (hj : j < G.nodes.length) (hgt : (nodeAt G j).gate = true) : (0 ≤ (nodeAt G j).a ∧ (nodeAt G j).a < 4294967296) ∧ (0 ≤ (nodeAt G j).b ∧ (nodeAt G j).b < 4294967296) := by
  have e : G.nodes[j]? = some (nodeAt G j) := by unfold nodeAt; rw [List.getD_eq_getElem?_getD, List.getElem?_eq_getElem hj]; rfl
  obtain ⟨h1, h2, -, -⟩ := hW.gates j _ e hgt
  exact ⟨h1, h2⟩
theorem begin_size (b : Bool) : (sBegin b).size ≤ 1000 := by cases b <;> decide
theorem lines_size {N : Nt} (h : EmOk N) : ∀ x ∈ linesL N, x.size ≤ 1000000 := by
  intro x hx
  unfold linesL at hx
  rcases List.mem_cons.1 hx with rfl | hx
  · have := spellS_size [sModel, N.name] (fun x hx => by
      simp at hx
      rcases hx with rfl | rfl
      · decide
      · exact h.name)
    simp at this
    omega
  rcases List.mem_append.1 hx with hx | hx
  · obtain ⟨b, hb, rfl⟩ := List.mem_map.1 hx
    exact busS_size (by decide) (h.ins b hb)
  rcases List.mem_append.1 hx with hx | hx
  · obtain ⟨r, hr, rfl⟩ := List.mem_map.1 hx
    obtain ⟨h1, h2, h3⟩ := h.regs r hr
    have := spellS_size [sLatch, decS r.q, decS r.d, decS r.en, sBegin r.init] (fun x hx => by
      simp at hx
      rcases hx with rfl | rfl | rfl | rfl | rfl
      · decide
      · exact decS_size h1
      · exact decS_size h2
      · exact decS_size h3
      · exact begin_size _)
    simp at this
    show (spellS _).size ≤ _
    omega
  rcases List.mem_append.1 hx with hx | hx
  · unfold gatesL at hx
    obtain ⟨j, hj, rfl⟩ := List.mem_map.1 hx
    obtain ⟨hj, hgt⟩ := List.mem_filter.1 hj
    have hj := List.mem_range.1 hj
    obtain ⟨h1, h2⟩ := nodeAt_lits h.wf h.few hj hgt
    have hf := h.few
    have := spellS_size [sAnd, decS (2 * (j : Int)), decS (nodeAt N.g j).a, decS (nodeAt N.g j).b] (fun x hx => by
      simp at hx
      rcases hx with rfl | rfl | rfl | rfl
      · decide
      · exact decS_size (by omega)
      · exact decS_size h1
      · exact decS_size h2)
    simp at this
    show (spellS _).size ≤ _
    omega
  rcases List.mem_append.1 hx with hx | hx
  · obtain ⟨b, hb, rfl⟩ := List.mem_map.1 hx
    exact busS_size (by decide) (h.outs b hb)
  · simp at hx
    subst hx
    decide
theorem gatesL_len (G : Gr) (n : Nat) : (gatesL G n).length ≤ n := by
  unfold gatesL
  rw [List.length_map]
  have := List.length_filter_le (fun j => (nodeAt G j).gate) (List.range n)
  simpa using this
theorem lines_ln {N : Nt} (h : EmOk N) (hS : Small N) : ∃ L : List Ln, L.map (·.1) = linesL N ∧ L.length ≤ 1000000 := by
  refine ⟨(linesL N).attach.map (fun x => ⟨x.1, lines_size h x.1 x.2⟩), ?_, ?_⟩
  · rw [List.map_map]
    exact List.attach_map_subtype_val (linesL N)
  · rw [List.length_map, List.length_attach, linesL_len]
    have h1 := gatesL_len N.g N.g.nodes.length
    have h2 := hS.g
    have h3 := hS.ins
    have h4 := hS.regs
    have h5 := hS.outs
    omega
/-- The text, plainly. -/
def textN (N : Nt) : List UInt8 := (linesL N).flatMap (fun x => x.data.toList ++ [10])
theorem textT_of {N : Nt} {L : List Ln} (h : L.map (·.1) = linesL N) : textT L = textN N := by
  unfold textN
  rw [← h, List.flatMap_map]
  rfl
/-- What All tells. -/
def AllQ (w w' : World) (ck : Int) (T : List UInt8) (va : Value) (c : Int) : Prop :=
  (ck ≠ 0 ∧ va = .slice none 0 0 ∧ c = ck) ∨ (ck = 0 ∧ T.length ≤ 16777216 ∧ c = 0 ∧ w'.ownsRow w.heap.size 5 1 va T.length (bys T)) ∨ (ck = 0 ∧ 16777216 < T.length ∧ va = .slice none 0 0 ∧ c = 3)
theorem All_good {w : World} {q : NPl} {N : Nt} {rest : List Int} (h : NetIs w q N) (hg : Good N rest) (hS : Small N) (ht : PW w) :
    Calls Tryd.prog 34 #[.pointer (some ⟨q.b, 0, none⟩)] w fun e w' => ∃ va c, e = .returned (.tuple #[va, .int .i64 c]) ∧ AllQ w w' (ckV rest) (textN N) va c ∧ Below w.heap.size w w' := by
  obtain ⟨L, hL, hn⟩ := lines_ln (EmOk.of hg hS) hS
  have hx := All_any h hg (by have := hS.g; omega) (by have := hS.ins; omega) (by have := hS.regs; omega) (by have := hS.outs; omega) (EmOk.of hg hS) ht L hL hn
  refine hx.mono ?_
  rintro e w' ⟨va, c, rfl, hA, hB⟩
  refine ⟨va, c, rfl, ?_, hB⟩
  unfold AllR at hA
  rw [← textT_len, textT_of hL] at hA
  exact hA
theorem Size_good {w : World} {q : NPl} {N : Nt} {rest : List Int} (h : NetIs w q N) (hg : Good N rest) (hS : Small N) (ht : PW w) :
    Calls Tryd.prog 35 #[.pointer (some ⟨q.b, 0, none⟩)] w fun e w' => e = .returned (.tuple #[.int .i64 (if ckV rest = 0 then (textN N).length else 0 : Nat), .int .i64 (ckV rest)]) ∧ Below w.heap.size w w' := by
  obtain ⟨L, hL, hn⟩ := lines_ln (EmOk.of hg hS) hS
  have hx := Size_any h hg (by have := hS.g; omega) (by have := hS.ins; omega) (by have := hS.regs; omega) (by have := hS.outs; omega) (EmOk.of hg hS) ht L hL hn
  rw [← textT_len, textT_of hL] at hx
  refine hx.mono ?_
  rintro e w' ⟨rfl, hB⟩
  refine ⟨?_, hB⟩
  congr 3
  split <;> rfl
end Go.Proofs.YtnhpjacodhdpeaaDoor
end
