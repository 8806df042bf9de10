/-
  What Check asks: the buses' names and widths; that literals are there.
-/
import Derived.Test.YtjdebancpgpebaaNetD
import Derived.Maps.OwnSet
import Derived.Carry
import Derived.StringKeys
namespace Go.Proofs.Ytjdebancpgpebaa
open Go.RowKit Go.Maps Bits
set_option maxRecDepth 100000

theorem omap_below {H : Type} {P : Program} {k : TypeId} {R : Value → Option (DataW H × List MemPlace)} {w w' : World} {b n : Nat} {D : DataW H} (h : w.ownsMap P k R b n D) (hb : Below w.heap.size w w') : w'.ownsMap P k R b n D := by
  have hl := h.lt
  obtain ⟨es, cl, h1, r⟩ := h
  exact ⟨es, cl, (hb.block _ hl).trans h1, r⟩
def skey (s : ByteArray) : Lit := .string s.data.toList
theorem slaw : Keyed Try.prog 9 := string_keyed Try.underlying9
theorem skey_of (s : ByteArray) (hs : s.size ≤ maxLen) : keyOf Try.prog 9 (.string s) = some (skey s) := WideMaps.keyOf_string_mk Try.underlying9 hs
theorem skey_key (s : ByteArray) (hs : s.size ≤ maxLen) : WideAt.IsKeyLit (skey s) := slaw.key (skey_of s hs)
theorem skey_same {s t : ByteArray} : skey s = skey t ↔ sameN s t = true := by
  unfold skey sameN
  rw [beq_iff_eq, ByteArray.toList_eq, ByteArray.toList_eq]
  constructor
  · intro h; exact Lit.string.inj h
  · intro h; rw [h]
theorem zeroU (w : World) : (zeroValue 110).run Try.prog w = .ok (.agg #[]) w := by kernel_rfl
theorem tidyE : Tidy (DataW.map [] : DataW Unit) := tidy_empty
/-- The names seen so far. -/
structure Names (w wr : World) (L : List Bus) (j : Nat) (D : DataW Unit) : Prop where
  own : wr.ownsMap Try.prog 9 unitElem w.heap.size j D
  map : IsMap D
  has : ∀ s, s.size ≤ maxLen → has D (skey s) = (L.take j).any (fun b => sameN b.name s)
theorem Names.step {w wr w2 : World} {L : List Bus} {j : Nat} {D : DataW Unit} (h : Names w wr L j D) (hb : Below wr.heap.size wr w2) : Names w w2 L j D := ⟨omap_below h.own hb, h.map, h.has⟩
theorem Names.next {w wr w7 : World} {L : List Bus} {j : Nat} {D : DataW Unit} (h : Names w wr L j D) (hj : j < L.length) (hs : L[j].name.size ≤ maxLen) (ho : w7.ownsMap Try.prog 9 unitElem w.heap.size (j + 1) (D.put (skey L[j].name) (.agg []))) : Names w w7 L (j + 1) (D.put (skey L[j].name) (.agg [])) := by
  refine ⟨ho, h.map.put _ _, fun s hs2 => ?_⟩
  rw [List.take_add_one, List.any_append]
  have e1 : L[j]? = some L[j] := List.getElem?_eq_getElem hj
  simp only [e1, Option.toList_some, List.any_cons, List.any_nil, Bool.or_false]
  by_cases e : skey s = skey L[j].name
  · rw [e, has_put_same h.map (skey_key _ hs)]
    have : sameN L[j].name s = true := skey_same.1 e.symm
    simp [this]
  · rw [has_put_other e, h.has s hs2]
    have : sameN L[j].name s = false := by
      cases hh : sameN L[j].name s with
      | false => rfl
      | true => exact absurd (skey_same.2 hh).symm e
    simp [this]
theorem mayName_size {s : ByteArray} (h : mayName s = true) : s.size ≤ 80 := by
  unfold mayName at h
  simp at h
  omega
theorem seen_not {L : List Bus} (h : NamesApart L) {j : Nat} (hj : j < L.length) : (L.take j).any (fun b => sameN b.name L[j].name) = false := by
  rw [List.any_eq_false]
  intro b hb
  obtain ⟨i, hi, rfl⟩ := List.getElem_of_mem hb
  simp only [List.length_take] at hi
  have := List.pairwise_iff_getElem.1 h i j (by omega) hj (by omega)
  simp [this]
set_option maxHeartbeats 2000000 in
theorem mayBe_any {w : World} {a : Option Addr} {n c : Nat} {L : List Bus} (h : BusRow w (.slice a n c) L) (hn : n = L.length) (hok : BusesOk L) (hm : n ≤ 10000) :
    Calls Try.prog 38 #[.slice a n c] w fun e w' => e = .returned (.bool true) ∧ Below w.heap.size w w' := by
  have H := Lib.hid h
  have HN := Lib.hid hn
  have HO := Lib.hid hok
  have hmm := @run_makeMap Try.prog
  have h0 : Hid (Names w (w.alloc (.map #[] 0)) L 0 (.map [])) := Lib.hid ⟨World.ownsMap_made _ _ _ _, isMap_empty, fun s _ => by simp [Maps.has]⟩
  have hb0 : Hid (Below w.heap.size w (w.alloc (.map #[] 0))) := Lib.hid ((Below.refl _ _).alloc (Nat.le_refl _) _)
  clear h hn hok
  go_enter Try.func38, Try.ntmps38
  go_wp2
  go_loopw [11] (fun i wr => ∃ (j : Nat) (D : DataW Unit), j ≤ n ∧ i = .int .i64 j ∧ Hid (Names w wr L j D) ∧ Hid (Below w.heap.size w wr)) (fun i _ => n - (intOf i).toNat)
  case atStart => exact ⟨0, _, Nat.zero_le _, rfl, h0, hb0⟩
  case round =>
    clear h0 hb0 hmm
    obtain ⟨j, D, hj, rfl, hF, hB⟩ := hrel
    by_cases hlt : j < n
    · have hjL : j < L.length := by rw [← HN.out]; exact hlt
      obtain ⟨g2, la, lc, rfl, hgl, b0, b1, -⟩ := H.out.at hjL
      have hsz := hB.out.size
      have c0 := stepc hB.out hgl b0
      have c1 := stepc hB.out hgl b1
      have hnm := HO.out.name _ (List.getElem_mem hjL)
      have hwd := HO.out.wide _ (List.getElem_mem hjL)
      have hsz80 := mayName_size hnm
      have hkey := skey_of L[j].name (by unfold maxLen; omega)
      have hhas : Hid (has D (skey L[j].name) = false) := Lib.hid (by rw [hF.out.has _ (by unfold maxLen; omega)]; exact seen_not HO.out.apart hjL)
      have hnext := Lib.hid (fun w7 ho => hF.out.next (w7 := w7) hjL (by unfold maxLen; omega) ho)
      have hown := Lib.hid (fun w2 (hb : Below wr.heap.size wr w2) => (hF.out.step hb).own)
      have hmN := Lib.hid (fun w => MayName_any L[j].name w)
      rw [hnm] at hmN
      have hww : wide (L[j].lits.length : Int) = true := by rw [wide_iff]; omega
      have hmW := Lib.hid (fun w => mayWide_any (L[j].lits.length : Int) w)
      rw [hww] at hmW
      have hkey := Lib.hid hkey
      clear b0 b1 hnm hwd hww hF
      generalize L[j].name = nm at *
      generalize L[j].lits.length = ll at *
      generalize skey nm = kl at *
      have hb4 : Hid (Below wr.heap.size wr ((wr.alloc (.cells #[.string nm, .slice la ll lc] 46)).alloc (.cells #[] 110))) := Lib.hid (((Below.refl _ _).alloc (Nat.le_refl _) _).alloc (by simp) _)
      have hb5 : Hid (Below wr.heap.size wr (wr.alloc (.cells #[.string nm, .slice la ll lc] 46))) := Lib.hid ((Below.refl _ _).alloc (Nat.le_refl _) _)
      have d0 : ((wr.alloc (.cells #[.string nm, .slice la ll lc] 46)).alloc (.cells #[] 110)).cell? ⟨wr.heap.size, 0, none⟩ = some (.string nm) := by simp [go_sem]
      have d1 : ((wr.alloc (.cells #[.string nm, .slice la ll lc] 46)).alloc (.cells #[] 110)).cell? ⟨wr.heap.size, 1, none⟩ = some (.slice la ll lc) := by simp [go_sem]
      have dz : wr.heap.size < ((wr.alloc (.cells #[.string nm, .slice la ll lc] 46)).alloc (.cells #[] 110)).heap.size := by simp; omega
      go_wp2_with (first
        | (at_lookup; refine wpList_lookup_own_unit _ rfl _ _ 109 rfl 9 110 slaw Try.underlying109 (zeroU _) w.heap.size j D rfl (hown.out _ hb5.out) _ _ rfl hkey.out ?_; rw [hhas.out])
        | (go_at_call 10; (with_reducible refine (hmN.out _).mono ?_); rintro e w2 ⟨rfl, hb2⟩; have e0 := stepc hb2 dz d0; have e1 := stepc hb2 dz d1; have hb6 := Lib.hid (nextw hb4.out hb2); clear hb2 d0 d1)
        | (go_at_call 50; (with_reducible refine (hmW.out _).mono ?_); rintro e w3 ⟨rfl, rfl⟩)
        | (at_mapUpdate; refine wpList_mapUpdate_own _ rfl _ _ _ 109 rfl 9 110 slaw Try.underlying109 unitElem w.heap.size j D rfl (hown.out _ hb6.out) (by unfold maxLen; omega) _ _ kl rfl rfl hkey.out (.agg []) [] unitElem_mk ?_; intro w7 hown7 hgrow7; have hN7 := Lib.hid (hnext.out _ hown7); have hB7 := Lib.hid ((nextw hB.out hb6.out).grown hgrow7 (nextw hB.out hb6.out).size (fun k hk => by cases hk; exact Nat.le_refl _)); clear hown7 hgrow7))
      exact ⟨⟨j + 1, _, by omega, by go_num, hN7, hB7⟩, by simp [intOf]; omega⟩
    · obtain rfl : j = n := by omega
      go_wp2
      go_ret
      exact ⟨rfl, hB.out⟩
theorem allHas_of {G : Gr} {l : List Int} (h : AllThere G l) : allHas G l = true := by
  unfold allHas
  rw [List.all_eq_true]
  intro x hx
  exact (hasB_there (h x hx).1).2 (h x hx)
set_option maxHeartbeats 2000000 in
theorem leansWell_any {w : World} {q : NPl} {N : Nt} {rest : List Int} (h : NetIs w q N) (hg : Good N rest) :
    Calls Try.prog 39 #[.pointer (some ⟨q.b, 0, none⟩)] w fun e w' => e = .returned (.bool true) ∧ Below w.heap.size w w' := by
  obtain ⟨ia, ic, ra, rc, oa, oc, e1, e2, e3, c0, c1, c2, c3, c4, -⟩ := h.cells
  have hqlt := h.lt
  have hleO : N.outs.length ≤ 9223372036854775807 := by obtain ⟨K, hK⟩ := h.outs; exact own_maxLen hK.own
  have hleR : N.regs.length ≤ 9223372036854775807 := own_maxLen h.regs
  have hO := Lib.hid (show BusRow w (.slice oa N.outs.length oc) N.outs by have := h.outs; rw [e3] at this; exact this)
  have hR := Lib.hid (show RegRow w (.slice ra N.regs.length rc) N.regs by have := h.regs; rw [e2] at this; exact this)
  have hhas := Lib.hid (fun w2 (hb2 : Below w.heap.size w w2) (a : Option Addr) (n c : Nat) (l : List Int) (hs : Row .u32 w2 a n l) (ht : AllThere N.g l) => (show Calls Try.prog 53 #[.pointer (some ⟨q.b, 0, none⟩), .slice a n c] w2 fun e w' => e = .returned (.bool true) ∧ Below w2.heap.size w2 w' from by have := has_any (h.below hb2) hg.wf.pos (c := c) hs (fun x hx => (ht x hx).1); rw [allHas_of ht] at this; exact this))
  have hOT := Lib.hid hg.outT
  have hRT := Lib.hid hg.regT
  generalize N.g = G at *
  clear h hg e1 e2 e3
  go_enter Try.func39, Try.ntmps39
  go_wp2
  generalize hno : N.outs.length = no at *
  have hno := Lib.hid hno
  go_loopw [12] (fun i wr => ∃ j : Nat, j ≤ no ∧ i = .int .i64 j ∧ Hid (Below w.heap.size w wr)) (fun i _ => no - (intOf i).toNat)
  case atStart => exact ⟨0, Nat.zero_le _, rfl, Lib.hid (Below.refl _ _)⟩
  case round =>
    obtain ⟨j, hj, rfl, hB⟩ := hrel
    by_cases hlt : j < no
    · have hjL : j < N.outs.length := by rw [hno.out]; exact hlt
      obtain ⟨g2, la, lc, rfl, hgl, b0, b1, hr⟩ := hO.out.at hjL
      have d0 := stepc hB.out hgl b0
      have d1 := stepc hB.out hgl b1
      have hT := hOT.out _ (List.getElem_mem hjL)
      have hb4 : Hid (∀ o, Below wr.heap.size wr (wr.alloc o)) := Lib.hid (fun o => (Below.refl _ _).alloc (Nat.le_refl _) _)
      have hh := Lib.hid (fun o => hhas.out (wr.alloc o) (nextw hB.out (hb4.out o)) la N.outs[j].lits.length lc N.outs[j].lits ((hr.below hB.out).below (hb4.out o)).row hT)
      clear b0 b1 hr hT
      generalize N.outs[j].name = nm at *
      generalize N.outs[j].lits.length = ll at *
      go_wp2_with (go_at_call 53; (with_reducible refine (hh.out _).mono ?_); rintro e w3 ⟨rfl, hb3⟩)
      exact ⟨⟨j + 1, by omega, by go_num, Lib.hid (nextw hB.out (nextw (hb4.out _) hb3))⟩, by simp [intOf]; omega⟩
    · obtain rfl : j = no := by omega
      have k3 := stepc hB.out hqlt c3
      clear c0 c1 c2 c4 hO hOT
      go_wp2
      generalize hnr : N.regs.length = nr at *
      have hnr := Lib.hid hnr
      go_loopw [27] (fun i wr => ∃ j : Nat, j ≤ nr ∧ i = .int .i64 j ∧ Hid (Below w.heap.size w wr)) (fun i _ => nr - (intOf i).toNat)
      case atStart => exact ⟨0, Nat.zero_le _, rfl, hB⟩
      case round =>
        clear hB k3
        obtain ⟨i, hi, rfl, hB⟩ := hrel
        by_cases hlt : i < nr
        · have hjL : i < N.regs.length := by rw [hnr.out]; exact hlt
          obtain ⟨g2, rfl, hgl, b0, b1, b2, b3⟩ := hR.out.at hjL
          have d0 := stepc hB.out hgl b0
          have d1 := stepc hB.out hgl b1
          have d2 := stepc hB.out hgl b2
          have d3 := stepc hB.out hgl b3
          obtain ⟨t1, t2⟩ := hRT.out _ (List.getElem_mem hjL)
          have hb4 : Hid (∀ o p, Below wr.heap.size wr ((wr.alloc o).alloc p)) := Lib.hid (fun o p => ((Below.refl _ _).alloc (Nat.le_refl _) _).alloc (by simp) _)
          have hh := Lib.hid (fun o => hhas.out ((wr.alloc o).alloc (.cells #[.int .u32 N.regs[i].d, .int .u32 N.regs[i].en] 50)) (nextw hB.out (hb4.out _ _)) (some ⟨wr.heap.size + 1, 0, none⟩) 2 2 _ (by have := row2 (wr.alloc o) N.regs[i].d N.regs[i].en 50; rw [show (wr.alloc o).heap.size = wr.heap.size + 1 by simp] at this; exact this) (by intro y hy; simp at hy; rcases hy with rfl | rfl <;> assumption))
          clear b0 b1 b2 b3 t1 t2
          generalize N.regs[i] = r at *
          obtain ⟨rq, rd, re, ri⟩ := r
          simp only [] at d0 d1 d2 d3 hh
          go_wp2_with (go_at_call 53; (with_reducible refine (hh.out _).mono ?_); rintro e w3 ⟨rfl, hb3⟩)
          exact ⟨⟨i + 1, by omega, by go_num, Lib.hid (nextw hB.out (nextw (hb4.out _ _) hb3))⟩, by simp [intOf]; omega⟩
        · obtain rfl : i = nr := by omega
          go_wp2
          go_ret
          exact ⟨rfl, hB.out⟩
end Go.Proofs.Ytjdebancpgpebaa
