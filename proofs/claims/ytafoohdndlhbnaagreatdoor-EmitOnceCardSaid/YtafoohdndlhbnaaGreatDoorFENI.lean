/-
  What Check asks: the buses' names and widths; that literals are there.
  Inputs, with what it tells; Copy.
-/
import Derived.Test.YtafoohdndlhbnaaGreatDoorFENH
import Derived.Maps.OwnSet
import Derived.Carry
import Derived.StringKeys
import Derived.Test.YtafoohdndlhbnaaGreatDoorFENF
import Derived.Shelf.SlMaps.Clone
import Derived.Deep.RegionHeld3
import Derived.Deep.CutBlock
import Derived.Deep.DeepCutAuto
section
namespace Go.Proofs.YtafoohdndlhbnaaGreatDoor
open Go.RowKit Go.Maps Bits
set_option maxRecDepth 100000

theorem omap_below {H : Type} {P : Program} {k : TypeId} {R : Value → Option (DataW H × List MemPlace)} {w w' : World} {b n : Nat} {D : DataW H} (h : w.ownsMap P k R b n D) (hb : Below w.heap.size w w') : w'.ownsMap P k R b n D := by
  have hl := h.lt
  obtain ⟨es, cl, h1, r⟩ := h
  exact ⟨es, cl, (hb.block _ hl).trans h1, r⟩
def skey (s : ByteArray) : Lit := .string s.data.toList
theorem slaw : Keyed Tryz.prog 9 := string_keyed Tryz.underlying9
theorem skey_of (s : ByteArray) (hs : s.size ≤ maxLen) : keyOf Tryz.prog 9 (.string s) = some (skey s) := WideMaps.keyOf_string_mk Tryz.underlying9 hs
theorem skey_key (s : ByteArray) (hs : s.size ≤ maxLen) : WideAt.IsKeyLit (skey s) := slaw.key (skey_of s hs)
theorem skey_same {s t : ByteArray} : skey s = skey t ↔ sameN s t = true := by
  unfold skey sameN
  rw [beq_iff_eq, ByteArray.toList_eq, ByteArray.toList_eq]
  constructor
  · intro h; exact Lit.string.inj h
  · intro h; rw [h]
theorem zeroU (w : World) : (zeroValue 200).run Tryz.prog w = .ok (.agg #[]) w := by kernel_rfl
theorem tidyE : Tidy (DataW.map [] : DataW Unit) := tidy_empty
/-- The names seen so far. -/
structure Names (w wr : World) (L : List Bus) (j : Nat) (D : DataW Unit) : Prop where
  own : wr.ownsMap Tryz.prog 9 unitElem w.heap.size j D
  map : IsMap D
  has : ∀ s, s.size ≤ maxLen → has D (skey s) = (L.take j).any (fun b => sameN b.name s)
theorem Names.step {w wr w2 : World} {L : List Bus} {j : Nat} {D : DataW Unit} (h : Names w wr L j D) (hb : Below wr.heap.size wr w2) : Names w w2 L j D := ⟨omap_below h.own hb, h.map, h.has⟩
theorem Names.next {w wr w7 : World} {L : List Bus} {j : Nat} {D : DataW Unit} (h : Names w wr L j D) (hj : j < L.length) (hs : L[j].name.size ≤ maxLen) (ho : w7.ownsMap Tryz.prog 9 unitElem w.heap.size (j + 1) (D.put (skey L[j].name) (.agg []))) : Names w w7 L (j + 1) (D.put (skey L[j].name) (.agg [])) := by
  refine ⟨ho, h.map.put _ _, fun s hs2 => ?_⟩
  rw [List.take_add_one, List.any_append]
  have e1 : L[j]? = some L[j] := List.getElem?_eq_getElem hj
  simp only [e1, Option.toList_some, List.any_cons, List.any_nil, Bool.or_false]
  by_cases e : skey s = skey L[j].name
  · rw [e, has_put_same h.map (skey_key _ hs)]
    have : sameN L[j].name s = true := skey_same.1 e.symm
    simp [this]
  · rw [has_put_other e, h.has s hs2]
    have : sameN L[j].name s = false := by
      cases hh : sameN L[j].name s with
      | false => rfl
      | true => exact absurd (skey_same.2 hh).symm e
    simp [this]
theorem mayName_size {s : ByteArray} (h : mayName s = true) : s.size ≤ 80 := by
  unfold mayName at h
  simp at h
  omega
theorem seen_not {L : List Bus} (h : NamesApart L) {j : Nat} (hj : j < L.length) : (L.take j).any (fun b => sameN b.name L[j].name) = false := by
  rw [List.any_eq_false]
  intro b hb
  obtain ⟨i, hi, rfl⟩ := List.getElem_of_mem hb
  simp only [List.length_take] at hi
  have := List.pairwise_iff_getElem.1 h i j (by omega) hj (by omega)
  simp [this]
set_option maxHeartbeats 2000000 in
theorem mayBe_any {w : World} {a : Option Addr} {n c : Nat} {L : List Bus} (h : BusRow w (.slice a n c) L) (hn : n = L.length) (hok : BusesOk L) (hm : n ≤ 10000) :
    Calls Tryz.prog 50 #[.slice a n c] w fun e w' => e = .returned (.bool true) ∧ Below w.heap.size w w' := by
  have H := Lib.hid h
  have HN := Lib.hid hn
  have HO := Lib.hid hok
  have hmm := @run_makeMap Tryz.prog
  have h0 : Hid (Names w (w.alloc (.map #[] 0)) L 0 (.map [])) := Lib.hid ⟨World.ownsMap_made _ _ _ _, isMap_empty, fun s _ => by simp [Maps.has]⟩
  have hb0 : Hid (Below w.heap.size w (w.alloc (.map #[] 0))) := Lib.hid ((Below.refl _ _).alloc (Nat.le_refl _) _)
  clear h hn hok
  go_enter Tryz.func50, Tryz.ntmps50
  go_wp2
  go_loopw [11] (fun i wr => ∃ (j : Nat) (D : DataW Unit), j ≤ n ∧ i = .int .i64 j ∧ Hid (Names w wr L j D) ∧ Hid (Below w.heap.size w wr)) (fun i _ => n - (intOf i).toNat)
  case atStart => exact ⟨0, _, Nat.zero_le _, rfl, h0, hb0⟩
  case round =>
    clear h0 hb0 hmm
    obtain ⟨j, D, hj, rfl, hF, hB⟩ := hrel
    by_cases hlt : j < n
    · have hjL : j < L.length := by rw [← HN.out]; exact hlt
      obtain ⟨g2, la, lc, rfl, hgl, b0, b1, -⟩ := H.out.at hjL
      have hsz := hB.out.size
      have c0 := stepc hB.out hgl b0
      have c1 := stepc hB.out hgl b1
      have hnm := HO.out.name _ (List.getElem_mem hjL)
      have hwd := HO.out.wide _ (List.getElem_mem hjL)
      have hsz80 := mayName_size hnm
      have hkey := skey_of L[j].name (by unfold maxLen; omega)
      have hhas : Hid (has D (skey L[j].name) = false) := Lib.hid (by rw [hF.out.has _ (by unfold maxLen; omega)]; exact seen_not HO.out.apart hjL)
      have hnext := Lib.hid (fun w7 ho => hF.out.next (w7 := w7) hjL (by unfold maxLen; omega) ho)
      have hown := Lib.hid (fun w2 (hb : Below wr.heap.size wr w2) => (hF.out.step hb).own)
      have hmN := Lib.hid (fun w => MayName_any L[j].name w)
      rw [hnm] at hmN
      have hww : wide (L[j].lits.length : Int) = true := by rw [wide_iff]; omega
      have hmW := Lib.hid (fun w => mayWide_any (L[j].lits.length : Int) w)
      rw [hww] at hmW
      have hkey := Lib.hid hkey
      clear b0 b1 hnm hwd hww hF
      generalize L[j].name = nm at *
      generalize L[j].lits.length = ll at *
      generalize skey nm = kl at *
      have hb4 : Hid (Below wr.heap.size wr ((wr.alloc (.cells #[.string nm, .slice la ll lc] 71)).alloc (.cells #[] 200))) := Lib.hid (((Below.refl _ _).alloc (Nat.le_refl _) _).alloc (by simp) _)
      have hb5 : Hid (Below wr.heap.size wr (wr.alloc (.cells #[.string nm, .slice la ll lc] 71))) := Lib.hid ((Below.refl _ _).alloc (Nat.le_refl _) _)
      have d0 : ((wr.alloc (.cells #[.string nm, .slice la ll lc] 71)).alloc (.cells #[] 200)).cell? ⟨wr.heap.size, 0, none⟩ = some (.string nm) := by simp [go_sem]
      have d1 : ((wr.alloc (.cells #[.string nm, .slice la ll lc] 71)).alloc (.cells #[] 200)).cell? ⟨wr.heap.size, 1, none⟩ = some (.slice la ll lc) := by simp [go_sem]
      have dz : wr.heap.size < ((wr.alloc (.cells #[.string nm, .slice la ll lc] 71)).alloc (.cells #[] 200)).heap.size := by simp; omega
      go_wp2_with (first
        | (at_lookup; refine wpList_lookup_own_unit _ rfl _ _ 199 rfl 9 200 slaw Tryz.underlying199 (zeroU _) w.heap.size j D rfl (hown.out _ hb5.out) _ _ rfl hkey.out ?_; rw [hhas.out])
        | (go_at_call 49; (with_reducible refine (hmN.out _).mono ?_); rintro e w2 ⟨rfl, hb2⟩; have e0 := stepc hb2 dz d0; have e1 := stepc hb2 dz d1; have hb6 := Lib.hid (nextw hb4.out hb2); clear hb2 d0 d1)
        | (go_at_call 123; (with_reducible refine (hmW.out _).mono ?_); rintro e w3 ⟨rfl, rfl⟩)
        | (at_mapUpdate; refine wpList_mapUpdate_own _ rfl _ _ _ 199 rfl 9 200 slaw Tryz.underlying199 unitElem w.heap.size j D rfl (hown.out _ hb6.out) (by unfold maxLen; omega) _ _ kl rfl rfl hkey.out (.agg []) [] unitElem_mk ?_; intro w7 hown7 hgrow7; have hN7 := Lib.hid (hnext.out _ hown7); have hB7 := Lib.hid ((nextw hB.out hb6.out).grown hgrow7 (nextw hB.out hb6.out).size (fun k hk => by cases hk; exact Nat.le_refl _)); clear hown7 hgrow7))
      exact ⟨⟨j + 1, _, by omega, by go_num, hN7, hB7⟩, by simp [intOf]; omega⟩
    · obtain rfl : j = n := by omega
      go_wp2
      go_ret
      exact ⟨rfl, hB.out⟩
theorem allHas_of {G : Gr} {l : List Int} (h : AllThere G l) : allHas G l = true := by
  unfold allHas
  rw [List.all_eq_true]
  intro x hx
  exact (hasB_there (h x hx).1).2 (h x hx)
set_option maxHeartbeats 2000000 in
theorem leansWell_anyP {w : World} {q : NPl} {N : Nt} (h : NetIs w q N) (hp : 0 < N.g.nodes.length) (hoT : ∀ b ∈ N.outs, ∀ x ∈ b.lits, There N.g x) (hrT : ∀ r ∈ N.regs, There N.g r.d ∧ There N.g r.en) :
    Calls Tryz.prog 51 #[.pointer (some ⟨q.b, 0, none⟩)] w fun e w' => e = .returned (.bool true) ∧ Below w.heap.size w w' := by
  obtain ⟨ia, ic, ra, rc, oa, oc, e1, e2, e3, c0, c1, c2, c3, c4, -⟩ := h.cells
  have hqlt := h.lt
  have hleO : N.outs.length ≤ 9223372036854775807 := by obtain ⟨K, hK⟩ := h.outs; exact own_maxLen hK.own
  have hleR : N.regs.length ≤ 9223372036854775807 := own_maxLen h.regs
  have hO := Lib.hid (show BusRow w (.slice oa N.outs.length oc) N.outs by have := h.outs; rw [e3] at this; exact this)
  have hR := Lib.hid (show RegRow w (.slice ra N.regs.length rc) N.regs by have := h.regs; rw [e2] at this; exact this)
  have hhas := Lib.hid (fun w2 (hb2 : Below w.heap.size w w2) (a : Option Addr) (n c : Nat) (l : List Int) (hs : Row .u32 w2 a n l) (ht : AllThere N.g l) => (show Calls Tryz.prog 124 #[.pointer (some ⟨q.b, 0, none⟩), .slice a n c] w2 fun e w' => e = .returned (.bool true) ∧ Below w2.heap.size w2 w' from by have := has_any (h.below hb2) hp (c := c) hs (fun x hx => (ht x hx).1); rw [allHas_of ht] at this; exact this))
  have hOT := Lib.hid hoT
  have hRT := Lib.hid hrT
  clear hoT hrT hp
  generalize N.g = G at *
  clear h e1 e2 e3
  go_enter Tryz.func51, Tryz.ntmps51
  go_wp2
  generalize hno : N.outs.length = no at *
  have hno := Lib.hid hno
  go_loopw [12] (fun i wr => ∃ j : Nat, j ≤ no ∧ i = .int .i64 j ∧ Hid (Below w.heap.size w wr)) (fun i _ => no - (intOf i).toNat)
  case atStart => exact ⟨0, Nat.zero_le _, rfl, Lib.hid (Below.refl _ _)⟩
  case round =>
    obtain ⟨j, hj, rfl, hB⟩ := hrel
    by_cases hlt : j < no
    · have hjL : j < N.outs.length := by rw [hno.out]; exact hlt
      obtain ⟨g2, la, lc, rfl, hgl, b0, b1, hr⟩ := hO.out.at hjL
      have d0 := stepc hB.out hgl b0
      have d1 := stepc hB.out hgl b1
      have hT := hOT.out _ (List.getElem_mem hjL)
      have hb4 : Hid (∀ o, Below wr.heap.size wr (wr.alloc o)) := Lib.hid (fun o => (Below.refl _ _).alloc (Nat.le_refl _) _)
      have hh := Lib.hid (fun o => hhas.out (wr.alloc o) (nextw hB.out (hb4.out o)) la N.outs[j].lits.length lc N.outs[j].lits ((hr.below hB.out).below (hb4.out o)).row hT)
      clear b0 b1 hr hT
      generalize N.outs[j].name = nm at *
      generalize N.outs[j].lits.length = ll at *
      go_wp2_with (go_at_call 124; (with_reducible refine (hh.out _).mono ?_); rintro e w3 ⟨rfl, hb3⟩)
      exact ⟨⟨j + 1, by omega, by go_num, Lib.hid (nextw hB.out (nextw (hb4.out _) hb3))⟩, by simp [intOf]; omega⟩
    · obtain rfl : j = no := by omega
      have k3 := stepc hB.out hqlt c3
      clear c0 c1 c2 c4 hO hOT
      go_wp2
      generalize hnr : N.regs.length = nr at *
      have hnr := Lib.hid hnr
      go_loopw [27] (fun i wr => ∃ j : Nat, j ≤ nr ∧ i = .int .i64 j ∧ Hid (Below w.heap.size w wr)) (fun i _ => nr - (intOf i).toNat)
      case atStart => exact ⟨0, Nat.zero_le _, rfl, hB⟩
      case round =>
        clear hB k3
        obtain ⟨i, hi, rfl, hB⟩ := hrel
        by_cases hlt : i < nr
        · have hjL : i < N.regs.length := by rw [hnr.out]; exact hlt
          obtain ⟨g2, rfl, hgl, b0, b1, b2, b3⟩ := hR.out.at hjL
          have d0 := stepc hB.out hgl b0
          have d1 := stepc hB.out hgl b1
          have d2 := stepc hB.out hgl b2
          have d3 := stepc hB.out hgl b3
          obtain ⟨t1, t2⟩ := hRT.out _ (List.getElem_mem hjL)
          have hb4 : Hid (∀ o p, Below wr.heap.size wr ((wr.alloc o).alloc p)) := Lib.hid (fun o p => ((Below.refl _ _).alloc (Nat.le_refl _) _).alloc (by simp) _)
          have hh := Lib.hid (fun o => hhas.out ((wr.alloc o).alloc (.cells #[.int .u32 N.regs[i].d, .int .u32 N.regs[i].en] 66)) (nextw hB.out (hb4.out _ _)) (some ⟨wr.heap.size + 1, 0, none⟩) 2 2 _ (by have := row2 (wr.alloc o) N.regs[i].d N.regs[i].en 66; rw [show (wr.alloc o).heap.size = wr.heap.size + 1 by simp] at this; exact this) (by intro y hy; simp at hy; rcases hy with rfl | rfl <;> assumption))
          clear b0 b1 b2 b3 t1 t2
          generalize N.regs[i] = r at *
          obtain ⟨rq, rd, re, ri⟩ := r
          simp only [] at d0 d1 d2 d3 hh
          go_wp2_with (go_at_call 124; (with_reducible refine (hh.out _).mono ?_); rintro e w3 ⟨rfl, hb3⟩)
          exact ⟨⟨i + 1, by omega, by go_num, Lib.hid (nextw hB.out (nextw (hb4.out _ _) hb3))⟩, by simp [intOf]; omega⟩
        · obtain rfl : i = nr := by omega
          go_wp2
          go_ret
          exact ⟨rfl, hB.out⟩
theorem leansWell_any {w : World} {q : NPl} {N : Nt} {rest : List Int} (h : NetIs w q N) (hg : Good N rest) :
    Calls Tryz.prog 51 #[.pointer (some ⟨q.b, 0, none⟩)] w fun e w' => e = .returned (.bool true) ∧ Below w.heap.size w w' := leansWell_anyP h hg.wf.pos hg.outT hg.regT
end Go.Proofs.YtafoohdndlhbnaaGreatDoor
end

section
namespace Go.Proofs.YtafoohdndlhbnaaGreatDoor
open Go.RowKit Go.Maps
set_option maxRecDepth 100000

theorem clone_int {w : World} {base : Nat} {a : Option Addr} {m c : Nat} {l : List Int} (h : w.ownsRow base 3 1 (.slice a m c) m (l.map (Value.int .i64))) (hm : m ≤ 200000) :
    Calls Tryz.prog 140 #[.slice a m c] w fun e w' => ∃ (a2 : Option Addr) (c2 : Nat), e = .returned (.slice a2 m c2) ∧ w'.ownsRow w.heap.size 3 1 (.slice a2 m c2) m (l.map (Value.int .i64)) ∧ Below w.heap.size w w' := by
  obtain ⟨i0, hi, hz0, hz1, hz2⟩ := info_parts info_int
  have hlen : (l.map (Value.int .i64)).length = m := by have := h.1; simpa using this
  have hone : ∀ u ∈ l.map (Value.int .i64), u.oneCell' = true := by
    intro u hu
    obtain ⟨z, -, rfl⟩ := List.mem_map.1 hu
    rfl
  generalize l.map (Value.int .i64) = xs at *
  rcases h.2 with ⟨h0, h1⟩ | ⟨g, cap', cur, hv, -, -⟩
  · simp at h0
    obtain ⟨rfl, rfl, rfl⟩ := h0
    obtain rfl : xs = [] := List.length_eq_zero_iff.1 hlen
    clear h hlen hone h1
    have heq : ∀ W, (binOp .eql 130 (.slice none 0 0) (.slice none 0 0)).run Tryz.prog W = .ok (.bool true) W := fun W => Lib.run_eql_slice_nil W _ _ _ _ _ _ _ Tryz.underlying130
    go_enter Tryz.func140, Tryz.ntmps140
    go_wp2
    go_ret
    exact ⟨none, 0, rfl, own_nil _ _ _, Below.refl _ _⟩
  · simp at hv
    obtain ⟨rfl, rfl⟩ := hv
    have hlt := own_lt h
    have hcells := h.cells (g := g) rfl
    have HO := Lib.hid (fun j u (h : xs[j]? = some u) => hcells j u h)
    have HL := Lib.hid hlen
    have H1 := Lib.hid hone
    have hemp : Hid ((w.alloc (.cells #[] 3)).ownsRow w.heap.size 3 1 (.slice (some ⟨w.heap.size, 0, none⟩) 0 0) 0 []) := Lib.hid ⟨rfl, .inr ⟨w.heap.size, 0, #[], rfl, Nat.le_refl _, Deep.blk_alloc_new _ _, Nat.le_refl _, by decide, rfl, rfl⟩⟩
    have hb0 : Hid (Below w.heap.size w (w.alloc (.cells #[] 3))) := Lib.hid ((Below.refl _ _).alloc (Nat.le_refl _) _)
    have hadd : ∀ j, (⟨g, 0, none⟩ : Addr).add j = ⟨g, j, none⟩ := fun j => by simp [Addr.add]; omega
    have HN := Lib.hid (fun j u (h : xs[j]? = some u) => (hb0.out.cell (p := (⟨g, 0, none⟩ : Addr).add j) (by rw [hadd]; exact hlt)).trans (HO.out j u h))
    clear h hcells hlen hone hadd
    have heq : ∀ W, (binOp .eql 130 (.slice (some ⟨g, 0, none⟩) m c) (.slice none 0 0)).run Tryz.prog W = .ok (.bool false) W := fun W => Lib.run_eql_slice_nil W _ _ _ _ _ _ _ Tryz.underlying130
    go_enter Tryz.func140, Tryz.ntmps140
    go_wp2_with (at_builtin; refine wpList_append_own_at _ rfl _ _ 130 rfl w.heap.size 3 i0 (.int .i64 0) 1 8 Tryz.underlying130 hi hz0 hz1 hz2 rfl (by decide) (.slice (some ⟨w.heap.size, 0, none⟩) 0 0) 0 [] rfl hemp.out ⟨g, 0, none⟩ m c xs rfl (by rw [HL.out]; omega) HN.out H1.out (by unfold maxLen; omega) (by omega) (by simp) ?_; intro v' w3 hown' hgrow hnil hloc)
    obtain ⟨a3, c3, rfl⟩ := own_slice hown'
    go_wp2
    go_ret
    rw [List.nil_append, Nat.zero_add] at hown'
    refine ⟨a3, c3, by simp, hown', ?_⟩
    exact hb0.out.grown hgrow (by simp) (fun k hk => by simp [Value.ownBlock] at hk; omega)

theorem node_one (ns : List Nd) : ∀ u ∈ nodeCells ns, u.oneCell' = true := by
  intro u hu
  obtain ⟨n, -, hn⟩ := List.mem_flatMap.1 hu
  simp [ndCells] at hn
  rcases hn with rfl | rfl | rfl <;> rfl
theorem clone_node {w : World} {g m c : Nat} {ns : List Nd} (h : w.ownsRow 0 165 3 (.slice (some ⟨g, 0, none⟩) m c) m (nodeCells ns)) (hm : m ≤ 200000) (h0 : 0 < m) :
    Calls Tryz.prog 139 #[.slice (some ⟨g, 0, none⟩) m c] w fun e w' => ∃ g2 c2 : Nat, e = .returned (.slice (some ⟨g2, 0, none⟩) m c2) ∧ w'.ownsRow w.heap.size 165 3 (.slice (some ⟨g2, 0, none⟩) m c2) m (nodeCells ns) ∧ Below w.heap.size w w' := by
  obtain ⟨i0, hi, hz0, hz1, hz2⟩ := info_parts info_node
  have hlen : (nodeCells ns).length = m * 3 := h.1
  have hone := node_one ns
  have hlt := own_lt h
  have hcells := h.cells (g := g) rfl
  generalize nodeCells ns = xs at *
  have HO := Lib.hid (fun j u (h : xs[j]? = some u) => hcells j u h)
  have HL := Lib.hid hlen
  have H1 := Lib.hid hone
  have hemp : Hid ((w.alloc (.cells #[] 165)).ownsRow w.heap.size 165 3 (.slice (some ⟨w.heap.size, 0, none⟩) 0 0) 0 []) := Lib.hid ⟨rfl, .inr ⟨w.heap.size, 0, #[], rfl, Nat.le_refl _, Deep.blk_alloc_new _ _, Nat.le_refl _, by decide, rfl, rfl⟩⟩
  have hb0 : Hid (Below w.heap.size w (w.alloc (.cells #[] 165))) := Lib.hid ((Below.refl _ _).alloc (Nat.le_refl _) _)
  have hadd : ∀ j, (⟨g, 0, none⟩ : Addr).add j = ⟨g, j, none⟩ := fun j => by simp [Addr.add]; omega
  have HN := Lib.hid (fun j u (h : xs[j]? = some u) => (hb0.out.cell (p := (⟨g, 0, none⟩ : Addr).add j) (by rw [hadd]; exact hlt)).trans (HO.out j u h))
  clear h hcells hlen hone hadd
  have heq : ∀ W, (binOp .eql 129 (.slice (some ⟨g, 0, none⟩) m c) (.slice none 0 0)).run Tryz.prog W = .ok (.bool false) W := fun W => Lib.run_eql_slice_nil W _ _ _ _ _ _ _ Tryz.underlying129
  go_enter Tryz.func139, Tryz.ntmps139
  go_wp2_with (at_builtin; refine wpList_append_own_at _ rfl _ _ 129 rfl w.heap.size 165 i0 (.agg #[.bool false, .int .u32 0, .int .u32 0]) 3 12 Tryz.underlying129 hi hz0 hz1 hz2 rfl (by decide) (.slice (some ⟨w.heap.size, 0, none⟩) 0 0) 0 [] rfl hemp.out ⟨g, 0, none⟩ m c xs rfl (by rw [HL.out]) HN.out H1.out (by unfold maxLen; omega) (by omega) (by simp) ?_; intro v' w3 hown' hgrow hnil hloc)
  rw [List.nil_append, Nat.zero_add] at hown'
  obtain ⟨a3, c3, rfl⟩ := own_form hown' h0
  go_wp2
  go_ret
  refine ⟨a3, c3, by simp, hown', ?_⟩
  exact hb0.out.grown hgrow (by simp) (fun k hk => by simp [Value.ownBlock] at hk; omega)

/-- Inputs, with what it tells. -/
theorem InputsOf_any {w : World} {p : Pl} {G : Gr} (hG : Is w p G) (hW : Wf G) (hm : G.nodes.length ≤ 200000) :
    Calls Tryz.prog 125 #[.pointer (some ⟨p.b, 0, none⟩)] w fun e w' => ∃ (a : Option Addr) (c : Nat), e = .returned (.slice a G.inputs.length c) ∧ w'.ownsRow w.heap.size 3 1 (.slice a G.inputs.length c) G.inputs.length (G.inputs.map (Value.int .i64)) ∧ Below w.heap.size w w' := by
  have hst := Lib.hid (stands_any hG.lay hW.pos)
  have hcn := hW.cnt
  obtain ⟨-, -, -, c3, -, -⟩ := hG.lay.cells
  obtain ⟨ia, ic, hiv⟩ := own_slice hG.lay.inputs
  rw [hiv] at c3
  have hio := hG.lay.inputs
  rw [hiv] at hio
  have hcl := Lib.hid (clone_int hio (by omega))
  clear hG hW hcn hio hiv
  generalize G.inputs.map (Value.int .i64) = xs at *
  generalize G.inputs.length = m at *
  go_enter Tryz.func125, Tryz.ntmps125
  go_wp2_with (first
    | (go_at_call 58; refine hst.out.mono ?_; rintro e w2 ⟨rfl, rfl⟩)
    | (go_at_call 140; refine hcl.out.mono ?_; rintro e w2 ⟨a2, cap2, rfl, ho, hB⟩))
  go_ret
  exact ⟨a2, cap2, rfl, ho, hB⟩

theorem clone_map {w : World} {m : Option Nat} {H : Bool} {ns : List Nd} (h : MapIn w m H ns) :
    Calls Tryz.prog 141 #[.map m] w fun e w' => ∃ m2, e = .returned (.map m2) ∧ MapIn w' m2 H ns ∧ (∀ k, m2 = some k → w.heap.size ≤ k) ∧ Below w.heap.size w w' := by
  unfold MapIn at h
  split at h
  · rename_i hH
    obtain ⟨mb, D, rfl, ho, hD⟩ := h
    have hlt := ho.lt
    obtain ⟨es, clock, hb, F, hs, hE⟩ := ho
    have hq : ∀ W, (binOp .eql 131 (.map (some mb)) (.map none)).run Tryz.prog W = .ok (.bool false) W := fun W => run_eql_map_nil_sl W _ _ _ _ Tryz.underlying131
    have hfin : MapIn (w.alloc (.map es clock)) (some w.heap.size) H ns := by
      unfold MapIn
      rw [if_pos hH]
      exact ⟨_, D, rfl, ⟨es, clock, Deep.blk_alloc_new _ _, F, hs, hE⟩, hD⟩
    have hrun := run_maps_clone_sl (P := Tryz.prog) w 131 hb
    have HF := Lib.hid hfin
    clear hs hE hD F hfin
    go_enter Tryz.func141, Tryz.ntmps141
    go_wp2
    rw [run_callFunc_extern Tryz.func199 (by kernel_rfl) (by kernel_rfl) (by kernel_rfl) (e := Extern.MapsClone.clone) (by kernel_rfl), hrun]
    simp only [Result.andThen]
    rw [Oper.upon_value]
    go_wp2
    rw [run_typeAssert_map_sl _ 131 20 _ _ _ Tryz.underlying131]
    simp only [Result.andThen]
    rw [Oper.upon_value]
    go_wp2
    go_ret
    exact ⟨_, rfl, HF.out, fun k hk => by cases hk; exact Nat.le_refl _, (Below.refl _ _).alloc (Nat.le_refl _) _⟩
  · rename_i hH
    subst h
    have hq : ∀ W, (binOp .eql 131 (.map none) (.map none)).run Tryz.prog W = .ok (.bool true) W := fun W => run_eql_map_nil_sl W _ _ _ _ Tryz.underlying131
    go_enter Tryz.func141, Tryz.ntmps141
    go_wp2
    go_ret
    exact ⟨none, rfl, by unfold MapIn; rw [if_neg hH], fun k hk => (by cases hk), Below.refl _ _⟩

theorem CpQ {P : Program} {f : FuncId} {args : Array Value} {w : World} {Q0 : Ending → World → Prop} (h : Calls P f args w Q0) (Q : Ending → World → Prop) (hi : ∀ e w', Q0 e w' → Q e w') : Calls P f args w Q := h.mono hi
/-- The parts of a copy, made one by one. -/
structure CpN (w wk : World) (ns : List Nd) (g c : Nat) : Prop where
  own : wk.ownsRow w.heap.size 165 3 (.slice (some ⟨g, 0, none⟩) ns.length c) ns.length (nodeCells ns)
structure CpI (w wk : World) (ins : List Int) (a : Option Addr) (c : Nat) : Prop where
  own : wk.ownsRow w.heap.size 3 1 (.slice a ins.length c) ins.length (ins.map (Value.int .i64))
structure CpM (w wk : World) (H : Bool) (ns : List Nd) (m : Option Nat) : Prop where
  map : MapIn wk m H ns
  new : ∀ k, m = some k → w.heap.size ≤ k
theorem copy_end {w wk : World} {G : Gr} {g c : Nat} {a : Option Addr} {ci : Nat} {m : Option Nat} (hB : Below w.heap.size w wk) (hN : CpN w wk G.nodes g c) (hI : CpI w wk G.inputs a ci) (hM : CpM w wk G.hash G.nodes m) :
    ∃ p2 : Pl, p2.b = wk.heap.size ∧ Is (wk.alloc (.cells #[.bool G.fold, .bool G.hash, .slice (some ⟨g, 0, none⟩) G.nodes.length c, .slice a G.inputs.length ci, .map m] 133)) p2 G ∧ ∀ k, p2.has k → w.heap.size ≤ k := by
  have hb1 : ∀ o, Below wk.heap.size wk (wk.alloc o) := fun o => (Below.refl _ _).alloc (Nat.le_refl _) _
  refine ⟨⟨wk.heap.size, g, c, .slice a G.inputs.length ci, m⟩, rfl, ⟨⟨Deep.blk_alloc_new _ _, own_base (own_below hN.own (hb1 _)) (Nat.zero_le _), own_base (own_below hI.own (hb1 _)) (Nat.zero_le _)⟩, hM.map.below (hb1 _)⟩, ?_⟩
  intro k hk
  rcases hk with rfl | rfl | hk | hk
  · exact hB.size
  · exact own_ge hN.own _ rfl
  · exact own_ge hI.own _ hk
  · exact hM.new _ hk

set_option maxHeartbeats 1000000 in
theorem Copy_any {w : World} {p : Pl} {G : Gr} (hG : Is w p G) (hW : Wf G) (hm : G.nodes.length ≤ 200000) :
    Calls Tryz.prog 59 #[.pointer (some ⟨p.b, 0, none⟩)] w fun e w' => ∃ p2 : Pl, e = .returned (.pointer (some ⟨p2.b, 0, none⟩)) ∧ Is w' p2 G ∧ Below w.heap.size w w' ∧ ∀ k, p2.has k → w.heap.size ≤ k := by
  have hst := Lib.hid (stands_any hG.lay hW.pos)
  have hcn := hW.cnt
  obtain ⟨c0, c1, c2, c3, c4, -⟩ := hG.lay.cells
  obtain ⟨ia, ic, hiv⟩ := own_slice hG.lay.inputs
  rw [hiv] at c3
  have hio := hG.lay.inputs
  rw [hiv] at hio
  have hno : w.ownsRow 0 165 3 (.slice (some ⟨p.nb, 0, none⟩) G.nodes.length p.nc) G.nodes.length (nodeCells G.nodes) := hG.lay.nodes
  have hlt := hG.lay.lt
  have hKN := Lib.hid (fun wk (hb : Below w.heap.size w wk) => (CpQ (clone_node (own_below hno hb) hm hW.pos) (fun e w2 => ∃ g2 c2 : Nat, e = .returned (.slice (some ⟨g2, 0, none⟩) G.nodes.length c2) ∧ CpN w w2 G.nodes g2 c2 ∧ Below wk.heap.size wk w2) (fun _ _ ⟨g2, c2, he, ho, hb2⟩ => ⟨g2, c2, he, ⟨own_base ho hb.size⟩, hb2⟩)))
  have hKI := Lib.hid (fun wk (hb : Below w.heap.size w wk) => (CpQ (clone_int (own_below hio hb) (by omega)) (fun e w2 => ∃ (a2 : Option Addr) (c2 : Nat), e = .returned (.slice a2 G.inputs.length c2) ∧ CpI w w2 G.inputs a2 c2 ∧ Below wk.heap.size wk w2) (fun _ _ ⟨g2, c2, he, ho, hb2⟩ => ⟨g2, c2, he, ⟨own_base ho hb.size⟩, hb2⟩)))
  have hKM := Lib.hid (fun wk (hb : Below w.heap.size w wk) => (CpQ (clone_map (hG.map.below hb)) (fun e w2 => ∃ m2, e = .returned (.map m2) ∧ CpM w w2 G.hash G.nodes m2 ∧ Below wk.heap.size wk w2) (fun _ _ ⟨m2, he, hm2, hn2, hb2⟩ => ⟨m2, he, ⟨hm2, fun k hk => Nat.le_trans hb.size (hn2 k hk)⟩, hb2⟩)))
  have hend := Lib.hid (fun wk g c a ci m (h1 : Below w.heap.size w wk) (h2 : CpN w wk G.nodes g c) (h3 : CpI w wk G.inputs a ci) (h4 : CpM w wk G.hash G.nodes m) => copy_end h1 h2 h3 h4)
  have hsN := Lib.hid (fun wk w2 g c (h : CpN w wk G.nodes g c) (hb : Below wk.heap.size wk w2) => CpN.mk (own_below h.own hb))
  have hsI := Lib.hid (fun wk w2 g c (h : CpI w wk G.inputs g c) (hb : Below wk.heap.size wk w2) => CpI.mk (own_below h.own hb))
  have hsM := Lib.hid (fun wk w2 m (h : CpM w wk G.hash G.nodes m) (hb : Below wk.heap.size wk w2) => CpM.mk (h.map.below hb) h.new)
  clear hG hW hcn hiv hio hno hm
  generalize CpN w = PN at *
  generalize CpI w = PI at *
  generalize CpM w = PM at *
  generalize hns : G.nodes = ns at *
  generalize hni : G.inputs = ins at *
  generalize hnf : G.fold = fo at *
  generalize hnh : G.hash = ha at *
  generalize ns.length = n at *
  generalize ins.length = m at *
  have hKeep := Lib.hid (fun (wk w2 : World) (hb : Below w.heap.size w wk) (hb2 : Below wk.heap.size wk w2) (o : Nat) (v : Value) (h : wk.cell? ⟨p.b, o, none⟩ = some v) => stepc hb2 (Nat.lt_of_lt_of_le hlt hb.size) h)
  have I : Below w.heap.size w w.drew := (Below.refl _ _).drew
  go_enter Tryz.func59, Tryz.ntmps59
  go_upto_region 3 with (go_at_call 58; refine hst.out.mono ?_; rintro e w2 ⟨rfl, rfl⟩)
  clear hst
  go_region_held3 (fun w' => w'.cell? ⟨p.b, 0, none⟩ = some (.bool fo) ∧ w'.cell? ⟨p.b, 1, none⟩ = some (.bool ha) ∧ w'.cell? ⟨p.b, 2, none⟩ = some (.slice (some ⟨p.nb, 0, none⟩) n p.nc) ∧ w'.cell? ⟨p.b, 3, none⟩ = some (.slice ia m ic) ∧ w'.cell? ⟨p.b, 4, none⟩ = some (.map p.m)) (go_keep)
    (first
      | (go_at_call 139; (with_reducible refine (hKN.out _ I).mono ?_); rintro e w2 ⟨gn, cn, rfl, hN, hb⟩; have hN := Lib.hid hN; (first | (have h1 := Lib.hid (hsI.out _ _ _ _ hI.out hb); clear hI; have hI := h1; clear h1) | (have h1 := Lib.hid (hsI.out _ _ _ hI.out hb); clear hI; have hI := h1; clear h1) | skip); (first | (have h1 := Lib.hid (hsM.out _ _ _ _ hM.out hb); clear hM; have hM := h1; clear h1) | (have h1 := Lib.hid (hsM.out _ _ _ hM.out hb); clear hM; have hM := h1; clear h1) | skip); have q0 := hKeep.out _ _ I hb 0 _ c0; have q1 := hKeep.out _ _ I hb 1 _ c1; have q2 := hKeep.out _ _ I hb 2 _ c2; have q3 := hKeep.out _ _ I hb 3 _ c3; have q4 := hKeep.out _ _ I hb 4 _ c4; have I2 := nextw I hb; clear I hb c0 c1 c2 c3 c4; have I := I2; have c0 := q0; have c1 := q1; have c2 := q2; have c3 := q3; have c4 := q4; clear I2 q0 q1 q2 q3 q4)
      | (go_at_call 140; (with_reducible refine (hKI.out _ I).mono ?_); rintro e w2 ⟨ga, ca, rfl, hI, hb⟩; have hI := Lib.hid hI; (first | (have h1 := Lib.hid (hsN.out _ _ _ _ hN.out hb); clear hN; have hN := h1; clear h1) | (have h1 := Lib.hid (hsN.out _ _ _ hN.out hb); clear hN; have hN := h1; clear h1) | skip); (first | (have h1 := Lib.hid (hsM.out _ _ _ _ hM.out hb); clear hM; have hM := h1; clear h1) | (have h1 := Lib.hid (hsM.out _ _ _ hM.out hb); clear hM; have hM := h1; clear h1) | skip); have q0 := hKeep.out _ _ I hb 0 _ c0; have q1 := hKeep.out _ _ I hb 1 _ c1; have q2 := hKeep.out _ _ I hb 2 _ c2; have q3 := hKeep.out _ _ I hb 3 _ c3; have q4 := hKeep.out _ _ I hb 4 _ c4; have I2 := nextw I hb; clear I hb c0 c1 c2 c3 c4; have I := I2; have c0 := q0; have c1 := q1; have c2 := q2; have c3 := q3; have c4 := q4; clear I2 q0 q1 q2 q3 q4)
      | (go_at_call 141; (with_reducible refine (hKM.out _ I).mono ?_); rintro e w2 ⟨m2, rfl, hM, hb⟩; have hM := Lib.hid hM; (first | (have h1 := Lib.hid (hsN.out _ _ _ _ hN.out hb); clear hN; have hN := h1; clear h1) | (have h1 := Lib.hid (hsN.out _ _ _ hN.out hb); clear hN; have hN := h1; clear h1) | skip); (first | (have h1 := Lib.hid (hsI.out _ _ _ _ hI.out hb); clear hI; have hI := h1; clear h1) | (have h1 := Lib.hid (hsI.out _ _ _ hI.out hb); clear hI; have hI := h1; clear h1) | skip); have q0 := hKeep.out _ _ I hb 0 _ c0; have q1 := hKeep.out _ _ I hb 1 _ c1; have q2 := hKeep.out _ _ I hb 2 _ c2; have q3 := hKeep.out _ _ I hb 3 _ c3; have q4 := hKeep.out _ _ I hb 4 _ c4; have I2 := nextw I hb; clear I hb c0 c1 c2 c3 c4; have I := I2; have c0 := q0; have c1 := q1; have c2 := q2; have c3 := q3; have c4 := q4; clear I2 q0 q1 q2 q3 q4))
  all_goals go_wp2
  all_goals go_ret
  all_goals
    obtain ⟨p2, e1, h1, h2⟩ := hend.out _ _ _ _ _ _ I hN.out hI.out hM.out
    exact ⟨p2, by rw [e1]; rfl, h1, I.alloc I.size _, h2⟩
end Go.Proofs.YtafoohdndlhbnaaGreatDoor
end
