/-
  The document's text: All.
  EmitTells, plainly: no line has a newline; the text of few steps is not too long.
  Package emit: the iterator once more: what it needs is asked of each world anew.
-/
import Derived.Test.YtafoohdndlhbnaaGreatDoorFETC
import Derived.Test.YtafoohdndlhbnaaGreatDoorFETA
import Derived.Test.YtafoohdndlhbnaaGreatDoorFEOK
import Derived.Test.YtafoohdndlhbnaaGreatDoorFEON
section
namespace Go.Proofs.YtafoohdndlhbnaaGreatDoor
open Go.RowKit Go.Maps Bits
set_option maxRecDepth 100000
set_option linter.unusedVariables false

set_option maxHeartbeats 8000000 in
theorem rAll_any {w0 w : World} {B Bg : Nat} {p : RPl} {N : Nt} {rest : List Int} (h : RN w0 w B Bg p N) (hg : Good N rest) (hS : Small N) :
    Calls Tryz.prog 11 #[.pointer (some ⟨B, 0, none⟩)] w fun e w' => ∃ va c, e = .returned (.tuple #[va, .int .i64 c]) ∧ AllQ w w' (ckV rest) (textN N) va c ∧ Below w.heap.size w w' := by
  have hck := Lib.hid (rCheck_any h hg hS)
  have hli := Lib.hid (fun W (hb : Below w.heap.size w W) => rLines_any (h.step hb) hg hS)
  by_cases hz : ckV rest = 0
  · have hsz := lines_size (EmOk.of hg hS)
    have hln : (linesL N).length ≤ 300000 := by
      have h1 := linesL_len N
      have h2 := gatesL_len N.g N.g.nodes.length
      have := hS.g
      have := hS.ins
      have := hS.regs
      have := hS.outs
      omega
    unfold lx at hli
    simp only [if_pos hz] at hli
    rw [hz] at hck
    rw [hz]
    have htx : textN N = textL (linesL N) := rfl
    rw [htx]
    clear h hg hS hz htx
    generalize linesL N = L at *
    obtain ⟨i0, hin, hz0, hz1, hz2⟩ := info_parts info_u8t
    obtain ⟨n, hn⟩ : ∃ n, L.length = n := ⟨_, rfl⟩
    rw [hn] at hln
    simp only [hn] at hli
    have hsz := Lib.hid hsz
    have hn := Lib.hid hn
    go_enter Tryz.func11, Tryz.ntmps11
    go_wp2_with (first
      | (go_at_call 43; (with_reducible refine hck.out.mono ?_); rintro e w2 ⟨rfl, hb2⟩; have hB2 := Lib.hid hb2; clear hb2)
      | (go_at_call 13; (with_reducible refine (hli.out _ hB2.out).mono ?_); rintro e w3 ⟨v, rfl, ho3, hb3⟩; have hB3 := Lib.hid (nextw hB2.out hb3); have ho3 := Lib.hid ho3; clear hb3))
    obtain ⟨va, vc, rfl⟩ := own_slice ho3.out
    go_loopw [5, 7] (fun b i wr => ∃ j : Nat, j ≤ n ∧ i = .int .i64 j ∧ Hid (wr.ownsRow w3.heap.size 5 1 b (textL (L.take j)).length (bys (textL (L.take j)))) ∧ Hid (Below w3.heap.size w3 wr)) (fun _ i _ => n - (intOf i).toNat)
    case atStart => exact ⟨0, Nat.zero_le _, rfl, Lib.hid (own_nil _ _ _), Lib.hid (Below.refl _ _)⟩
    case round =>
      obtain ⟨j, hj, rfl, ho, hB⟩ := hrel
      have htl := textL_len (L.take j) (fun x hx => hsz.out x (List.mem_of_mem_take hx))
      rw [List.length_take] at htl
      have htl : (textL (L.take j)).length ≤ 300000300000 := by have := Nat.mul_le_mul_left 1000001 (Nat.le_trans (Nat.min_le_left j L.length) (Nat.le_trans hj hln)); omega
      obtain ⟨ba, bc, rfl⟩ := own_slice ho.out
      by_cases hlt : j < n
      · have hjl : j < L.length := by rw [hn.out]; exact hlt
        obtain ⟨g, cap, e⟩ := own_form ho3.out (by omega)
        simp only [Value.slice.injEq] at e
        obtain ⟨rfl, -, -⟩ := e
        have hcl : wr.cell? ⟨g, j, none⟩ = some (.string L[j]) := by
          have h1 := own_below ho3.out hB.out
          rw [h1.cellAt (j := j) (by omega)]
          simp [strs, hjl]
        have hx := hsz.out _ (List.getElem_mem hjl)
        obtain ⟨t, ht⟩ : ∃ t, textL (L.take j) = t := ⟨_, rfl⟩
        have hnx := textL_next hjl
        rw [ht] at hnx htl ho ⊢
        obtain ⟨t7, ht7⟩ : ∃ t7, t7 = t ++ L[j].data.toList := ⟨_, rfl⟩
        obtain ⟨t8, ht8⟩ : ∃ t8, t8 = t7 ++ [10] := ⟨_, rfl⟩
        have l7 : t7.length = t.length + L[j].size := by rw [ht7, List.length_append]; rfl
        have l8 : t8.length = t7.length + 1 := by rw [ht8, List.length_append]; rfl
        have hE7 : Hid (bys t ++ Lib.strCells L[j] = bys t7) := Lib.hid (by rw [ht7, bys_app, strCells_bys])
        have hE8 : Hid (bys t7 ++ [.int .u8 10] = bys t8) := Lib.hid (by rw [ht8, bys_app]; rfl)
        have hE9 : Hid (textL (L.take (j + 1)) = t8) := Lib.hid (by rw [hnx, ht8, ht7])
        have b7 : t7.length ≤ 300001300000 := by omega
        have m7 := Lib.hid l7
        have m8 := Lib.hid l8
        have ht := Lib.hid ht
        clear l7 l8 hnx ht7 ht8
        generalize L[j] = xs at *
        go_wp2_with (first
          | (at_builtin; refine Lib.wpList_append_own_string _ rfl _ _ 29 9 rfl w3.heap.size 5 i0 Tryz.underlying29 Tryz.underlying9 hin hz0 hz1 hz2 _ _ _ rfl ho.out xs rfl (by unfold maxLen; omega) (by omega) hB.out.size ?_; intro v7 w7 hown7 hg7 _; rw [hE7.out, ← m7.out] at hown7; have hB7 := Lib.hid (hB.out.grown hg7 hB.out.size (fun k e => own_ge ho.out k e)); obtain ⟨a7, c7, rfl⟩ := own_slice hown7; have hown7 := Lib.hid hown7; clear hg7)
          | (at_builtin; refine wpList_append_lies _ rfl _ _ 29 rfl w3.heap.size 5 i0 (.int .u8 0) 1 1 Tryz.underlying29 hin hz0 hz1 hz2 rfl (by decide) (.slice a7 t7.length c7) t7.length _ rfl (hown7.out.alloc _) ⟨w7.heap.size, 0, none⟩ 1 1 [.int .u8 10] rfl rfl (news1 _ _ _) (by simp [Value.oneCell']) (by decide) (by unfold maxLen; omega) (by omega) (by have := hB7.out.size; simp; omega) _ rfl ?_; intro g8 cap8 w8 hown8 hg8 hat8 hlt8; rw [hE8.out] at hown8; have hB8 := Lib.hid ((hB7.out.alloc hB7.out.size _).grown hg8 (hB7.out.alloc hB7.out.size _).size (fun k e => own_ge hown7.out k e)); have hown8 := Lib.hid hown8; clear hg8 hat8 hlt8))
        exact ⟨⟨j + 1, by omega, by go_num, Lib.hid (by rw [hE9.out, m8.out]; exact hown8.out), hB8⟩, by simp [intOf]; omega⟩
      · obtain rfl : j = n := by omega
        have hfl : L.take j = L := List.take_of_length_le (by rw [hn.out]; exact Nat.le_refl _)
        rw [hfl] at ho htl ⊢
        have hb9 := nextw hB3.out (hB.out.mono (Nat.le_refl _))
        have hown9 := own_base ho.out hB3.out.size
        by_cases hgt : 16777216 < (textL L).length
        · have hd : decide ((16777216 : Int) < ((textL L).length : Int)) = true := by simp; omega
          go_wp2
          go_ret2
          exact ⟨_, _, rfl, .inr (.inr ⟨rfl, hgt, rfl, rfl⟩), hb9⟩
        · have hd : decide ((16777216 : Int) < ((textL L).length : Int)) = false := by simp; omega
          go_wp2
          go_ret2
          exact ⟨_, _, rfl, .inr (.inl ⟨rfl, by omega, rfl, hown9⟩), hb9⟩
  · generalize ckV rest = ck at *
    clear h hg hS hli
    go_enter Tryz.func11, Tryz.ntmps11
    go_wp2_with (go_at_call 43; (with_reducible refine hck.out.mono ?_); rintro e w2 ⟨rfl, hb2⟩)
    go_ret2
    exact ⟨_, _, rfl, .inl ⟨hz, rfl, rfl⟩, hb2⟩
end Go.Proofs.YtafoohdndlhbnaaGreatDoor
end

section
namespace Go.Proofs.YtafoohdndlhbnaaGreatDoor
open Go.RowKit Go.Maps Bits
set_option maxRecDepth 100000
set_option linter.unusedVariables false

theorem decS_len20 (x : Int) (h0 : 0 ≤ x) (h1 : x < 18446744073709551616) : (decS x).data.toList.length ≤ 20 := by
  obtain ⟨u, rfl⟩ : ∃ u : Nat, x = u := ⟨x.toNat, by omega⟩
  show ((Lib.decDigits u).toArray.toList).length ≤ 20
  rw [List.toList_toArray, Lib.decDigits_length]
  by_cases hu : 1 ≤ u
  · have := Lib.numDigits_eq u hu (by omega)
    split at this <;> omega
  · obtain rfl : u = 0 := by omega
    unfold Lib.nDigits
    simp
theorem spellM (xs : List ByteArray) (M : Nat) (h : ∀ x ∈ xs, x.size ≤ M) : (spellS xs).size ≤ (M + 1) * xs.length := by
  have h1 := join_len (xs.map (·.data.toList)) M (fun y hy => by
    obtain ⟨x, hx, rfl⟩ := List.mem_map.1 hy
    exact h x hx)
  rw [List.length_map] at h1
  exact h1
theorem decS_size20 {x : Int} (h : 0 ≤ x ∧ x < 4294967296) : (decS x).size ≤ 20 := decS_len20 x h.1 (by omega)
theorem busM {s : ByteArray} {b : Bus} (hs : s.size ≤ 80) (hl : b.lits.length ≤ 64) (h : ∀ i, 0 ≤ b.lits.getD i 0 ∧ b.lits.getD i 0 < 4294967296) (hn : b.name.size ≤ 80) : (busS s b).size ≤ 5400 := by
  have h1 := spellM ([s, b.name] ++ (List.range b.lits.length).map (fun i => decS (b.lits.getD i 0))) 80 (fun x hx => by
    rcases List.mem_append.1 hx with hx | hx
    · simp at hx
      rcases hx with rfl | rfl
      · exact hs
      · exact hn
    · obtain ⟨i, -, rfl⟩ := List.mem_map.1 hx
      have := decS_size20 (h i)
      omega)
  have h2 : ([s, b.name] ++ (List.range b.lits.length).map (fun i => decS (b.lits.getD i 0))).length ≤ 66 := by simp; omega
  show (spellS _).size ≤ _
  have := Nat.mul_le_mul_left 81 h2
  omega
theorem textL_lenM (M : Nat) : ∀ (L : List ByteArray), (∀ x ∈ L, x.size ≤ M) → (textL L).length ≤ (M + 1) * L.length
  | [], _ => by simp [textL]
  | x :: L, h => by
    have h1 := textL_lenM M L (fun y hy => h y (by simp [hy]))
    have h2 : x.data.toList.length ≤ M := h x (by simp)
    have e : textL (x :: L) = (x.data.toList ++ [10]) ++ textL L := by simp [textL]
    rw [e, List.length_append, List.length_append, List.length_cons, List.length_cons, List.length_nil, Nat.mul_add]
    omega
theorem textL_app (A B : List ByteArray) : (textL (A ++ B)).length = (textL A).length + (textL B).length := by simp [textL]
theorem begin_size1 (b : Bool) : (sBegin b).size ≤ 20 := by cases b <;> decide
/-- The text of sixty steps is not too long. -/
theorem text_few {N : Nt} {rest : List Int} (hg : Good N rest) (hU : Upto N 60) : (textN N).length ≤ 16777216 := by
  have hok := EmOk.of hg (hU.small (Nat.le_refl _))
  have hg1 := hU.g
  have hg2 := hU.ins
  have hg3 := hU.regs
  have hg4 := hU.outs
  have h0 : (textL [spellS [sModel, N.name]]).length ≤ 200 := by
    have h1 := spellM [sModel, N.name] 80 (fun x hx => by
      simp at hx
      rcases hx with rfl | rfl
      · decide
      · exact mayName_size hg.name)
    have h2 := textL_lenM 162 [spellS [sModel, N.name]] (fun x hx => by simp at hx; subst hx; exact h1)
    simpa using Nat.le_trans h2 (by simp)
  have h1 : (textL (N.ins.map (busS sInput))).length ≤ 324060 := by
    have h2 := textL_lenM 5400 (N.ins.map (busS sInput)) (fun x hx => by
      obtain ⟨b, hb, rfl⟩ := List.mem_map.1 hx
      exact busM (by decide) (hok.ins b hb).1 (hok.ins b hb).2.1 (mayName_size (hg.ins.name b hb)))
    rw [List.length_map] at h2
    have := Nat.mul_le_mul_left 5401 hg2
    omega
  have h2 : (textL (N.outs.map (busS sOutput))).length ≤ 324060 := by
    have h2 := textL_lenM 5400 (N.outs.map (busS sOutput)) (fun x hx => by
      obtain ⟨b, hb, rfl⟩ := List.mem_map.1 hx
      exact busM (by decide) (hok.outs b hb).1 (hok.outs b hb).2.1 (mayName_size (hg.outs.name b hb)))
    rw [List.length_map] at h2
    have := Nat.mul_le_mul_left 5401 hg4
    omega
  have h3 : (textL (N.regs.map regS)).length ≤ 6360 := by
    have h2 := textL_lenM 105 (N.regs.map regS) (fun x hx => by
      obtain ⟨r, hr, rfl⟩ := List.mem_map.1 hx
      obtain ⟨k1, k2, k3⟩ := hok.regs r hr
      have h4 := spellM [sLatch, decS r.q, decS r.d, decS r.en, sBegin r.init] 20 (fun x hx => by
        simp at hx
        rcases hx with rfl | rfl | rfl | rfl | rfl
        · decide
        · exact decS_size20 k1
        · exact decS_size20 k2
        · exact decS_size20 k3
        · exact begin_size1 _)
      simp at h4
      exact h4)
    rw [List.length_map] at h2
    have := Nat.mul_le_mul_left 106 hg3
    omega
  have h4 : (textL (gatesL N.g N.g.nodes.length)).length ≤ 326485 := by
    have h2 := textL_lenM 84 (gatesL N.g N.g.nodes.length) (fun x hx => by
      unfold gatesL at hx
      obtain ⟨j, hj, rfl⟩ := List.mem_map.1 hx
      obtain ⟨hj, hgt⟩ := List.mem_filter.1 hj
      have hj := List.mem_range.1 hj
      obtain ⟨k1, k2⟩ := nodeAt_lits hok.wf hok.few hj hgt
      have h4 := spellM [sAnd, decS (2 * (j : Int)), decS (nodeAt N.g j).a, decS (nodeAt N.g j).b] 20 (fun x hx => by
        simp at hx
        rcases hx with rfl | rfl | rfl | rfl
        · decide
        · exact decS_size20 (by omega)
        · exact decS_size20 k1
        · exact decS_size20 k2)
      simp at h4
      exact h4)
    have h5 := gatesL_len N.g N.g.nodes.length
    have := Nat.mul_le_mul_left 85 (Nat.le_trans h5 hg1)
    omega
  have h5 : (textL [spellS [sEnd]]).length ≤ 10 := by decide
  have e : textN N = textL ([spellS [sModel, N.name]] ++ (N.ins.map (busS sInput) ++ (N.regs.map regS ++ (gatesL N.g N.g.nodes.length ++ (N.outs.map (busS sOutput) ++ [spellS [sEnd]]))))) := rfl
  rw [e, textL_app, textL_app, textL_app, textL_app, textL_app]
  omega
/-- Strings without a newline. -/
def NoNl (x : ByteArray) : Prop := (10 : UInt8) ∉ x.data.toList
theorem digits_nl : ∀ (n u : Nat), u ≤ n → (10 : UInt8) ∉ Lib.decDigits u := by
  intro n
  induction n with
  | zero =>
    intro u hu
    obtain rfl : u = 0 := by omega
    rw [Lib.decDigits]
    decide
  | succ n ih =>
    intro u hu h
    by_cases h9 : 9 < u
    · rw [digits_more h9] at h
      rcases List.mem_append.1 h with h | h
      · exact ih (u / 10) (by omega) h
      · have hd : u % 10 ≤ 9 := by omega
        simp at h
        have := congrArg UInt8.toNat h
        revert this
        generalize u % 10 = d at *
        intro this
        simp at this
        omega
    · rw [digits_one h9] at h
      simp at h
      have := congrArg UInt8.toNat h
      simp at this
      omega
theorem decS_nl (x : Int) : NoNl (decS x) := by
  unfold NoNl
  rw [decS_list]
  exact digits_nl _ _ (Nat.le_refl _)
theorem spell_nl {xs : List ByteArray} (h : ∀ x ∈ xs, NoNl x) : NoNl (spellS xs) := by
  cases xs with
  | nil => unfold NoNl spellS; decide
  | cons x r =>
    unfold NoNl
    rw [spellS_flat]
    intro hm
    simp only [List.toList_toArray] at hm
    rcases List.mem_append.1 hm with hm | hm
    · exact h x (by simp) hm
    · obtain ⟨z, hz, hm⟩ := List.mem_flatMap.1 hm
      rcases List.mem_cons.1 hm with hm | hm
      · revert hm; decide
      · exact h z (by simp [hz]) hm
theorem mayName_nl {s : ByteArray} (h : mayName s = true) : NoNl s := by
  intro hm
  unfold mayName at h
  simp only [Bool.and_eq_true, List.all_eq_true] at h
  have := h.2.2 _ hm
  revert this
  decide
theorem bus_nl {s : ByteArray} {b : Bus} (hs : NoNl s) (hn : mayName b.name = true) : NoNl (busS s b) := by
  refine spell_nl (fun x hx => ?_)
  rcases List.mem_append.1 hx with hx | hx
  · simp at hx
    rcases hx with rfl | rfl
    · exact hs
    · exact mayName_nl hn
  · obtain ⟨i, -, rfl⟩ := List.mem_map.1 hx
    exact decS_nl _
theorem lines_nl {N : Nt} {rest : List Int} (hg : Good N rest) : ∀ x ∈ linesL N, NoNl x := by
  intro x hx
  unfold linesL at hx
  rcases List.mem_cons.1 hx with rfl | hx
  · refine spell_nl (fun x hx => ?_)
    simp at hx
    rcases hx with rfl | rfl
    · unfold NoNl; decide
    · exact mayName_nl hg.name
  rcases List.mem_append.1 hx with hx | hx
  · obtain ⟨b, hb, rfl⟩ := List.mem_map.1 hx
    exact bus_nl (by unfold NoNl; decide) (hg.ins.name b hb)
  rcases List.mem_append.1 hx with hx | hx
  · obtain ⟨r, hr, rfl⟩ := List.mem_map.1 hx
    refine spell_nl (fun x hx => ?_)
    simp at hx
    rcases hx with rfl | rfl | rfl | rfl | rfl
    · unfold NoNl; decide
    · exact decS_nl _
    · exact decS_nl _
    · exact decS_nl _
    · cases r.init <;> (unfold NoNl; decide)
  rcases List.mem_append.1 hx with hx | hx
  · unfold gatesL at hx
    obtain ⟨j, -, rfl⟩ := List.mem_map.1 hx
    refine spell_nl (fun x hx => ?_)
    simp at hx
    rcases hx with rfl | rfl | rfl | rfl
    · unfold NoNl; decide
    · exact decS_nl _
    · exact decS_nl _
    · exact decS_nl _
  rcases List.mem_append.1 hx with hx | hx
  · obtain ⟨b, hb, rfl⟩ := List.mem_map.1 hx
    exact bus_nl (by unfold NoNl; decide) (hg.outs.name b hb)
  · simp at hx
    subst hx
    refine spell_nl (fun x hx => ?_)
    simp at hx
    subst hx
    unfold NoNl
    decide
end Go.Proofs.YtafoohdndlhbnaaGreatDoor
end

section
namespace Go.Proofs.YtafoohdndlhbnaaGreatDoor
open Go.RowKit Go.Maps Bits
attribute [local go_sem] Oper.semAt_some
set_option maxRecDepth 100000
set_option linter.unusedVariables false

/-- What the iterator needs of a world. -/
structure BI (N : Nt) (q : NPl) (Bn : Nat) (W : World) : Prop where
  is : NetIs W q N
  pw : PW W
  lt : Bn < W.heap.size
  c : W.cell? ⟨Bn, 0, none⟩ = some (.pointer (some ⟨q.b, 0, none⟩))
theorem BI.step {N : Nt} {q : NPl} {Bn : Nat} {W W2 : World} (h : BI N q Bn W) (hb : Below W.heap.size W W2) : BI N q Bn W2 := ⟨h.is.below hb, h.pw.step hb, Nat.lt_of_lt_of_le h.lt hb.size, stepc hb h.lt h.c⟩
theorem BI.c0' {N : Nt} {q : NPl} {Bn : Nat} {W : World} (h : BI N q Bn W) : W.cell? ⟨q.b, 0, none⟩ = some (.pointer (some ⟨q.g.b, 0, none⟩)) := by
  have hb := h.is.box
  simp [World.cell?, hb, netBox]
theorem BI.c1' {N : Nt} {q : NPl} {Bn : Nat} {W : World} (h : BI N q Bn W) : W.cell? ⟨q.b, 1, none⟩ = some (.string N.name) := by
  have hb := h.is.box
  simp [World.cell?, hb, netBox]
theorem BI.c2' {N : Nt} {q : NPl} {Bn : Nat} {W : World} (h : BI N q Bn W) {v : Value} (e : q.iv = v) : W.cell? ⟨q.b, 2, none⟩ = some v := by
  have hb := h.is.box
  simp [World.cell?, hb, netBox, e]
theorem BI.c3' {N : Nt} {q : NPl} {Bn : Nat} {W : World} (h : BI N q Bn W) {v : Value} (e : q.rv = v) : W.cell? ⟨q.b, 3, none⟩ = some v := by
  have hb := h.is.box
  simp [World.cell?, hb, netBox, e]
theorem BI.c4' {N : Nt} {q : NPl} {Bn : Nat} {W : World} (h : BI N q Bn W) {v : Value} (e : q.ov = v) : W.cell? ⟨q.b, 4, none⟩ = some v := by
  have hb := h.is.box
  simp [World.cell?, hb, netBox, e]
def KpI (N : Nt) (q : NPl) (Bn : Nat) (W W' : World) : Prop := BI N q Bn W → BI N q Bn W'
set_option maxHeartbeats 4000000 in
theorem lines2_in {wL : World} {q : NPl} {N : Nt} (hok : EmOk N) {Bn : Nat} (hN0 : BI N q Bn wL) (L : List Ln) (hL : L.map (·.1) = linesL N) (n : Nat) (hn : 1 ≤ n) :
    SeqStopsK Fence.wide n Tryz.prog 111 #[.pointer (some ⟨Bn, 0, none⟩)] (fun x : Ln => #[Value.string x.1]) (KpI N q Bn) (fun ys => ys = L) (fun pre => pre <+: L) L.length wL := fun l J Jx W hW hJ hJx hY h0 => by
  have hY' : Hid (∀ (k : Nat) (s : ByteArray) (W1 : World), (linesL N)[k]? = some s → J (L.take k) W1 → YieldAt Fence.wide (n - 1) Tryz.prog l #[.string s] W1 fun e W' =>
      (e = .returned (.bool true) ∧ J (L.take (k + 1)) W' ∧ KpI N q Bn W1 W') ∨ (e = .returned (.bool false) ∧ Jx (L.take (k + 1)) W')) := Lib.hid (by
    intro k s W1 hs hj
    rw [← hL, List.getElem?_map] at hs
    cases hx : L[k]? with
    | none => rw [hx] at hs; cases hs
    | some x =>
      rw [hx] at hs
      cases hs
      have hk : k < L.length := (List.getElem?_eq_some_iff.1 hx).1
      have hlen : (L.take k).length < L.length := by rw [List.length_take]; omega
      have e : L.take (k + 1) = L.take k ++ [x] := by rw [List.take_add_one, hx]; rfl
      rw [e]
      exact hY _ x W1 hj hlen)
  clear hY
  have hstep : Hid (∀ (s : List Ln) (W1 W2 : World), J s W1 → Below W1.heap.size W1 W2 → J s W2) := Lib.hid (fun s W1 W2 hj hb => J_below hJ hj hb)
  have h0 := Lib.hid h0
  have hW := Lib.hid (hN0.step hW)
  have hN1 := hN0
  clear hN0
  obtain ⟨ia, ic, ra, rc, oa, oc, ei, er, eo, -⟩ := hN1.is.cells
  have hni := hok.ni
  have hnr := hok.nr
  have hno := hok.no
  have hnn := hok.few
  have hs0 := Lib.hid (fun (W1 : World) => spell_own [sModel, N.name] (own_pair W1 W1.heap.size 9 (.string sModel) (.string N.name) (Nat.le_refl _)) rfl (by omega) (by
    intro s hs
    simp at hs
    rcases hs with rfl | rfl
    · decide
    · exact hok.name))
  have HL := Lib.hid hL
  clear hN1 hL hJ hJx
  refine callsIn_of_wp Tryz.func111 rfl trivial ?_ rfl
  simp only [Tryz.ntmps111, List.size_toArray, List.length_cons, List.length_nil, Nat.reduceAdd, Nat.reduceSub, Array.replicate_succ, Array.replicate_zero, List.push_toArray, List.append_toArray, List.nil_append, List.cons_append]
  have d0 := hW.out.c
  have d1 := hW.out.c1'
  have hnil : ∀ W, Sem.run Tryz.prog (binOp .eql 120 (.func (.yield l) #[] #[]) .nilFunc) W = .ok (.bool false) W := fun W => by kernel_rfl
  have hl0 : (linesL N)[0]? = some (spellS [sModel, N.name]) := rfl
  gi_wp2_with (refine ⟨trivial, ?_⟩; gi_at_call 112; refine (callsIn_wide.2 (hs0.out W)).mono ?_; rintro e w2 ⟨rfl, hb2⟩; have hB2 := Lib.hid (nextw ((Below.refl W.heap.size W).alloc (Nat.le_refl _) _) hb2); obtain ⟨fn, tmps, assign, body, hy, hR⟩ := hY'.out 0 _ w2 hl0 (hstep.out _ _ _ h0.out hB2.out); have hR := Lib.hid hR)
  refine hR.out.mono ?_
  rintro e w3 (⟨rfl, hJ3, hk3⟩ | ⟨rfl, hJx3⟩)
  · have hB3 := Lib.hid (hk3 (hW.out.step hB2.out))
    have hJ3 := Lib.hid hJ3
    clear d0 d1
    have d0 := hB3.out.c
    have d2 := hB3.out.c2' ei
    clear hR hy hk3 hb2 hB2 h0 hl0
    gi_wp2
    gi_loopw [30] (fun i wr => ∃ j : Nat, j ≤ N.ins.length ∧ i = .int .i64 j ∧ Hid (J (L.take (1 + j)) wr) ∧ Hid (BI N q Bn wr)) (fun i _ => N.ins.length - (intOf i).toNat)
    case atStart => exact ⟨0, Nat.zero_le _, rfl, hJ3, hB3⟩
    case round =>
      obtain ⟨j, hj, rfl, hJr, hBr⟩ := hrel
      by_cases hlt : j < N.ins.length
      · have hrow : BusRow wr (.slice ia N.ins.length ic) N.ins := ei ▸ hBr.out.is.ins
        obtain ⟨g, la, lc, rfl, hg, b0, b1, hr0⟩ := hrow.at hlt
        have x0 := b0
        have x1 := b1
        obtain ⟨k1, k2, k3⟩ := hok.ins _ (List.getElem_mem hlt)
        have hbus := Lib.hid (fun W1 (hb : Below wr.heap.size wr W1) => busLine_any (lc := lc) sInput N.ins[j] (hr0.row.step hb) k2 (by omega) (hBr.out.pw.step hb) (by decide) k3)
        have hyj := Lib.hid (fun W1 => hY'.out (1 + j) (busS sInput N.ins[j]) W1 (linesL_in N hlt))
        clear b0 b1 hr0 hrow k1 k2 k3
        obtain ⟨B, hBd⟩ : ∃ B, B = N.ins[j] := ⟨_, rfl⟩
        rw [← hBd] at x0 x1 hbus hyj
        clear hBd
        generalize busS sInput B = S at *
        generalize B.name = bn at *
        generalize B.lits.length = bk at *
        gi_wp2_with (refine ⟨trivial, ?_⟩; gi_at_call 113; refine (callsIn_wide.2 (hbus.out _ ((Below.refl wr.heap.size wr).alloc (Nat.le_refl _) _))).mono ?_; rintro e w2 ⟨rfl, hb2⟩; have hB2 := Lib.hid (nextw ((Below.refl wr.heap.size wr).alloc (Nat.le_refl _) _) hb2); obtain ⟨fn, tmps, assign, body, hy, hR⟩ := hyj.out w2 (hstep.out _ _ _ hJr.out hB2.out); have hR := Lib.hid hR)
        refine hR.out.mono ?_
        rintro e w3 (⟨rfl, hJ3, hk3⟩ | ⟨rfl, hJx3⟩)
        · have hB3 := Lib.hid (hk3 (hBr.out.step hB2.out))
          have hJ3 := Lib.hid hJ3
          clear hR hk3 hB2 hbus hyj x0 x1
          gi_wp2
          go_roundw
          case rel => exact ⟨j + 1, by omega, by go_num, hJ3, hB3⟩
          case measure => simp [intOf]; omega
        · gi_wp2
          refine bodyPost_ret (results_none rfl _ _ _) rfl ?_
          exact ⟨⟨_, rfl⟩, .inr ⟨_, List.take_prefix _ _, hJx3⟩⟩
      · obtain rfl : j = N.ins.length := by omega
        have d0 := hBr.out.c
        have d3 := hBr.out.c3' er
        gi_wp2
        gi_loopw [45] (fun i wr => ∃ j : Nat, j ≤ N.regs.length ∧ i = .int .i64 j ∧ Hid (J (L.take (1 + N.ins.length + j)) wr) ∧ Hid (BI N q Bn wr)) (fun i _ => N.regs.length - (intOf i).toNat)
        case atStart => exact ⟨0, Nat.zero_le _, rfl, hJr, hBr⟩
        case round =>
          clear hJr hBr d0 d3
          obtain ⟨j, hj, rfl, hJr, hBr⟩ := hrel
          by_cases hlt : j < N.regs.length
          · have hrow : RegRow wr (.slice ra N.regs.length rc) N.regs := er ▸ hBr.out.is.regs
            obtain ⟨g, rfl, hg, b0, b1, b2, b3⟩ := hrow.at hlt
            have x0 := b0
            have x1 := b1
            have x2 := b2
            have x3 := b3
            have hreg := Lib.hid (fun W1 (hb : Below wr.heap.size wr W1) => regLine_any N.regs[j] (hok.regs _ (List.getElem_mem hlt)) (hBr.out.pw.step hb))
            have hyj := Lib.hid (fun W1 => hY'.out (1 + N.ins.length + j) (regS N.regs[j]) W1 (linesL_reg N hlt))
            clear b0 b1 b2 b3 hrow
            obtain ⟨B, hBd⟩ : ∃ B, B = N.regs[j] := ⟨_, rfl⟩
            rw [← hBd] at x0 x1 x2 x3 hreg hyj
            clear hBd
            generalize regS B = S at *
            generalize B.q = rq at *
            generalize B.d = rd at *
            generalize B.en = re at *
            generalize B.init = ri at *
            gi_wp2_with (refine ⟨trivial, ?_⟩; gi_at_call 114; refine (callsIn_wide.2 (hreg.out _ ((Below.refl wr.heap.size wr).alloc (Nat.le_refl _) _))).mono ?_; rintro e w2 ⟨rfl, hb2⟩; have hB2 := Lib.hid (nextw ((Below.refl wr.heap.size wr).alloc (Nat.le_refl _) _) hb2); obtain ⟨fn, tmps, assign, body, hy, hR⟩ := hyj.out w2 (hstep.out _ _ _ hJr.out hB2.out); have hR := Lib.hid hR)
            refine hR.out.mono ?_
            rintro e w3 (⟨rfl, hJ3, hk3⟩ | ⟨rfl, hJx3⟩)
            · have hB3 := Lib.hid (hk3 (hBr.out.step hB2.out))
              have hJ3 := Lib.hid hJ3
              clear hR hk3 hB2 hreg hyj x0 x1 x2 x3
              gi_wp2
              go_roundw
              case rel => exact ⟨j + 1, by omega, by go_num, hJ3, hB3⟩
              case measure => simp [intOf]; omega
            · gi_wp2
              refine bodyPost_ret (results_none rfl _ _ _) rfl ?_
              exact ⟨⟨_, rfl⟩, .inr ⟨_, List.take_prefix _ _, hJx3⟩⟩
          · obtain rfl : j = N.regs.length := by omega
            have d0 := hBr.out.c
            have d4 := hBr.out.c0'
            have hnod := Lib.hid (nodes_any hBr.out.is.g.lay hok.wf.pos)
            gi_wp2_with (refine ⟨trivial, ?_⟩; gi_at_call 21; refine (callsIn_wide.2 hnod.out).mono ?_; rintro e w2 ⟨rfl, rfl⟩)
            clear hnod
            gi_loopw [60] (fun i wr => ∃ j : Nat, j ≤ N.g.nodes.length ∧ i = .int .i64 j ∧ Hid (J (L.take (1 + N.ins.length + N.regs.length + (gatesL N.g j).length)) wr) ∧ Hid (BI N q Bn wr)) (fun i _ => N.g.nodes.length - (intOf i).toNat)
            case atStart => exact ⟨0, Nat.zero_le _, rfl, hJr, hBr⟩
            case round =>
              clear hJr hBr d0 d4
              obtain ⟨j, hj, rfl, hJr, hBr⟩ := hrel
              by_cases hlt : j < N.g.nodes.length
              · have d0 := hBr.out.c
                have hgt := Lib.hid (fun W1 (hb : Below wr.heap.size wr W1) => ofGate_any (hBr.out.is.below hb) hok.wf hok.few hlt (hBr.out.pw.step hb))
                have hgs := gatesL_succ N.g j
                by_cases hgk : (nodeAt N.g j).gate = true
                · have hyj := Lib.hid (fun W1 => hY'.out _ (gateS N.g j) W1 (linesL_gate N hlt hgk))
                  unfold gateL at hgt
                  rw [hgk] at hgt
                  rw [if_pos rfl] at hgt
                  rw [if_pos hgk] at hgs
                  have hgs := Lib.hid (congrArg List.length hgs)
                  clear hgk
                  generalize gateS N.g j = S at *
                  gi_wp2_with (refine ⟨trivial, ?_⟩; gi_at_call 115; refine (callsIn_wide.2 (hgt.out _ (Below.refl wr.heap.size wr))).mono ?_; rintro e w2 ⟨rfl, hb2⟩; have hB2 := Lib.hid hb2; obtain ⟨fn, tmps, assign, body, hy, hR⟩ := hyj.out w2 (hstep.out _ _ _ hJr.out hB2.out); have hR := Lib.hid hR)
                  refine hR.out.mono ?_
                  rintro e w3 (⟨rfl, hJ3, hk3⟩ | ⟨rfl, hJx3⟩)
                  · have hB3 := Lib.hid (hk3 (hBr.out.step hB2.out))
                    have hJ3 := Lib.hid hJ3
                    clear hR hk3 hB2 hgt hyj
                    gi_wp2
                    go_roundw
                    case rel => exact ⟨j + 1, by omega, by go_num, by rw [hgs.out]; simp only [List.length_append, List.length_singleton, ← Nat.add_assoc]; exact hJ3, hB3⟩
                    case measure => simp [intOf]; omega
                  · gi_wp2
                    refine bodyPost_ret (results_none rfl _ _ _) rfl ?_
                    exact ⟨⟨_, rfl⟩, .inr ⟨_, List.take_prefix _ _, hJx3⟩⟩
                · have hgk : (nodeAt N.g j).gate = false := by simpa using hgk
                  unfold gateL at hgt
                  rw [hgk] at hgt
                  rw [if_neg (by simp)] at hgt
                  rw [hgk] at hgs
                  rw [if_neg (by simp), List.append_nil] at hgs
                  have hgs := Lib.hid hgs
                  clear hgk
                  gi_wp2_with (refine ⟨trivial, ?_⟩; gi_at_call 115; refine (callsIn_wide.2 (hgt.out _ (Below.refl wr.heap.size wr))).mono ?_; rintro e w2 ⟨rfl, hb2⟩; have hB2 := Lib.hid hb2)
                  refine ⟨fun _ h => (by cases h), ?_⟩
                  gi_wp2
                  go_roundw
                  case rel => exact ⟨j + 1, by omega, by go_num, by rw [hgs.out]; exact Lib.hid (hstep.out _ _ _ hJr.out hB2.out), Lib.hid (hBr.out.step hB2.out)⟩
                  case measure => simp [intOf]; omega
              · obtain rfl : j = N.g.nodes.length := by omega
                have d0 := hBr.out.c
                have d4 := hBr.out.c4' eo
                gi_wp2
                obtain ⟨M, hM⟩ : ∃ M, M = 1 + N.ins.length + N.regs.length + (gatesL N.g N.g.nodes.length).length := ⟨_, rfl⟩
                have hJr : Hid (J (L.take M) wr) := by rw [hM]; exact hJr
                gi_loopw [82] (fun i wr => ∃ j : Nat, j ≤ N.outs.length ∧ i = .int .i64 j ∧ Hid (J (L.take (M + j)) wr) ∧ Hid (BI N q Bn wr)) (fun i _ => N.outs.length - (intOf i).toNat)
                case atStart => exact ⟨0, Nat.zero_le _, rfl, hJr, hBr⟩
                case round =>
                  clear hJr hBr d0 d4
                  obtain ⟨j, hj, rfl, hJr, hBr⟩ := hrel
                  by_cases hlt : j < N.outs.length
                  · have hrow : BusRow wr (.slice oa N.outs.length oc) N.outs := eo ▸ hBr.out.is.outs
                    obtain ⟨g, la, lc, rfl, hg, b0, b1, hr0⟩ := hrow.at hlt
                    have x0 := b0
                    have x1 := b1
                    obtain ⟨k1, k2, k3⟩ := hok.outs _ (List.getElem_mem hlt)
                    have hbus := Lib.hid (fun W1 (hb : Below wr.heap.size wr W1) => busLine_any (lc := lc) sOutput N.outs[j] (hr0.row.step hb) k2 (by omega) (hBr.out.pw.step hb) (by decide) k3)
                    have hyj := Lib.hid (fun W1 => hY'.out (M + j) (busS sOutput N.outs[j]) W1 (by rw [hM]; exact linesL_out N hlt))
                    clear b0 b1 hr0 hrow k1 k2 k3
                    obtain ⟨B, hBd⟩ : ∃ B, B = N.outs[j] := ⟨_, rfl⟩
                    rw [← hBd] at x0 x1 hbus hyj
                    clear hBd
                    generalize busS sOutput B = S at *
                    generalize B.name = bn at *
                    generalize B.lits.length = bk at *
                    gi_wp2_with (refine ⟨trivial, ?_⟩; gi_at_call 113; refine (callsIn_wide.2 (hbus.out _ ((Below.refl wr.heap.size wr).alloc (Nat.le_refl _) _))).mono ?_; rintro e w2 ⟨rfl, hb2⟩; have hB2 := Lib.hid (nextw ((Below.refl wr.heap.size wr).alloc (Nat.le_refl _) _) hb2); obtain ⟨fn, tmps, assign, body, hy, hR⟩ := hyj.out w2 (hstep.out _ _ _ hJr.out hB2.out); have hR := Lib.hid hR)
                    refine hR.out.mono ?_
                    rintro e w3 (⟨rfl, hJ3, hk3⟩ | ⟨rfl, hJx3⟩)
                    · have hB3 := Lib.hid (hk3 (hBr.out.step hB2.out))
                      have hJ3 := Lib.hid hJ3
                      clear hR hk3 hB2 hbus hyj x0 x1
                      gi_wp2
                      go_roundw
                      case rel => exact ⟨j + 1, by omega, by go_num, hJ3, hB3⟩
                      case measure => simp [intOf]; omega
                    · gi_wp2
                      refine bodyPost_ret (results_none rfl _ _ _) rfl ?_
                      exact ⟨⟨_, rfl⟩, .inr ⟨_, List.take_prefix _ _, hJx3⟩⟩
                  · obtain rfl : j = N.outs.length := by omega
                    have hse := Lib.hid (spell_own [sEnd] (own_single wr wr.heap.size 9 (.string sEnd) (Nat.le_refl _)) rfl (by omega) (by
                      intro s hs
                      simp at hs
                      rcases hs with rfl
                      decide))
                    have hye := Lib.hid (fun W1 => hY'.out (M + N.outs.length) (spellS [sEnd]) W1 (by rw [hM]; exact linesL_end N))
                    have hall : Hid (L.take (M + N.outs.length + 1) = L) := Lib.hid (by
                      apply List.take_of_length_le
                      have := congrArg List.length HL.out
                      rw [List.length_map, linesL_len, ← hM] at this
                      omega)
                    gi_wp2_with (refine ⟨trivial, ?_⟩; gi_at_call 112; refine (callsIn_wide.2 hse.out).mono ?_; rintro e w2 ⟨rfl, hb2⟩; have hB2 := Lib.hid (nextw ((Below.refl wr.heap.size wr).alloc (Nat.le_refl _) _) hb2); obtain ⟨fn, tmps, assign, body, hy, hR⟩ := hye.out w2 (hstep.out _ _ _ hJr.out hB2.out); have hR := Lib.hid hR)
                    refine hR.out.mono ?_
                    rintro e w3 (⟨rfl, hJ3, hk3⟩ | ⟨rfl, hJx3⟩)
                    · gi_wp2
                      go_end0
                      exact ⟨⟨_, rfl⟩, .inl ⟨_, hall.out, hJ3⟩⟩
                    · gi_wp2
                      go_end0
                      exact ⟨⟨_, rfl⟩, .inr ⟨_, List.take_prefix _ _, hJx3⟩⟩
  · gi_wp2
    refine bodyPost_ret (results_none rfl _ _ _) rfl ?_
    exact ⟨⟨_, rfl⟩, .inr ⟨_, List.take_prefix _ _, hJx3⟩⟩
end Go.Proofs.YtafoohdndlhbnaaGreatDoor
end
