/-
  The document's own netlist: Find; are all there; an input with its literal; a gate of two.
  The document's own netlist: a register more, a bus more, and where they lie then; AddReg, SetReg, New.
-/
import Derived.Test.YtlkainmkhofpaaaGreatFSAP
import Derived.Test.YtlkainmkhofpaaaGreatFSAH
import Derived.Laws.IdiomStrings
import Derived.Test.YtlkainmkhofpaaaGreatFSAI
section
namespace Go.Proofs.YtlkainmkhofpaaaGreat
open Go.RowKit Go.Maps Num
set_option maxRecDepth 100000

theorem rFind_any {w0 w : World} {a : Option Addr} {n c : Nat} {L : List Bus} (h : RBusRow w0 w (.slice a n c) L) (hn : n = L.length) (s : ByteArray) :
    Calls Tryz.prog 110 #[.slice a n c, .string s] w fun e w' => (∃ (a2 : Option Addr) (n2 c2 : Nat), e = .returned (.tuple #[.slice a2 n2 c2, .bool (atB L s).isSome])) ∧ w = w' := by
  have hle : n ≤ 9223372036854775807 := by obtain ⟨K, hK⟩ := h; rw [hn]; exact own_maxLen hK.own
  have H := Lib.hid h
  have HN := Lib.hid hn
  clear h hn
  go_enter Tryz.func110, Tryz.ntmps110
  go_wp2
  go_loopw [6] (fun i wr => wr = w ∧ ∃ j : Nat, j ≤ n ∧ i = .int .i64 j ∧ Hid (NotYet L s j)) (fun i _ => n - (intOf i).toNat)
  case atStart => exact ⟨rfl, 0, Nat.zero_le _, rfl, Lib.hid (fun i _ hi => by omega)⟩
  case round =>
    obtain ⟨rfl, j, hj, rfl, hy⟩ := hrel
    by_cases hlt : j < n
    · have hjL : j < L.length := by rw [← HN.out]; exact hlt
      obtain ⟨g, la, lc, rfl, hg, b0, b1, -⟩ := H.out.at hjL
      by_cases hs : sameN L[j].name s = true
      · have hf := Lib.hid (atB_hit hjL hs (fun i hi => hy.out i (by omega) hi))
        unfold sameN at hs
        generalize L[j].name = nm at *
        generalize L[j].lits.length = ll at *
        go_wp2
        go_ret2
        rw [hf.out]
        exact ⟨⟨_, _, _, rfl⟩, rfl⟩
      · have hs' : sameN L[j].name s = false := by simpa using hs
        have hf := Lib.hid (hy.out.next hjL hs')
        unfold sameN at hs'
        clear hs
        generalize L[j].name = nm at *
        generalize L[j].lits.length = ll at *
        go_wp2
        exact ⟨⟨trivial, j + 1, by omega, by go_num, hf⟩, by simp [intOf]; omega⟩
    · obtain rfl : j = n := by omega
      go_wp2
      go_ret2
      rw [atB_miss (fun i hi => hy.out i hi (by rw [HN.out]; exact hi))]
      exact ⟨⟨none, 0, 0, rfl⟩, rfl⟩

theorem rhas_any {w0 w : World} {B g c : Nat} {G : Gr} (h : Rf w0 w B g c G.fold G.hash G.nodes) (hm : G.nodes.length ≤ 200000) {a : Option Addr} {n cap : Nat} {l : List Int} (hs : Row .u32 w a n l) (hl : ∀ x ∈ l, IsLit x) :
    Calls Tryz.prog 59 #[.pointer (some ⟨B, 0, none⟩), .slice a n cap] w fun e w' => e = .returned (.bool (allHas G l)) ∧ Below w.heap.size w w' := by
  obtain ⟨-, -, c2, -⟩ := h.cells
  have hblt := h.blt
  have HT := Lib.hid (fun j (hj : j < n) => allHas_take G l j (by rw [hs.len]; exact hj))
  have HNN := Lib.hid (fun j (hj : j < n) => allHas_not G l j (by rw [hs.len]; exact hj))
  have HL := Lib.hid (fun j (hj : j < n) => hl (l.getD j 0) (by simp [List.getD, hs.len, hj]))
  have HA : Hid (allHas G (l.take n) = allHas G l) := Lib.hid (by rw [← hs.len, List.take_length])
  have HZ : Hid (allHas G (l.take 0) = true) := Lib.hid rfl
  have HS := Lib.hid hs
  have hle := hs.le
  have HB : Hid (∀ x, hasB G x = decide (x / 2 < (G.nodes.length : Int))) := Lib.hid (fun x => rfl)
  generalize hk : G.nodes.length = k at *
  generalize allHas G = P at *
  generalize hasB G = HBf at *
  clear h hk hs hl
  go_enter Tryz.func59, Tryz.ntmps59
  go_wp2
  go_loopw [5] (fun s wr => ∃ j : Nat, j ≤ n ∧ s = .int .i64 j ∧ Hid (Below w.heap.size w wr) ∧ Hid (P (l.take j) = true)) (fun s _ => n - (intOf s).toNat)
  case atStart => exact ⟨0, Nat.zero_le _, rfl, Lib.hid (Below.refl _ _), HZ⟩
  case round =>
    obtain ⟨j, hj, rfl, hB, ht⟩ := hrel
    by_cases hlt : j < n
    · obtain ⟨b, off, rfl, hb, hcell⟩ := HS.out.at (by omega)
      have hcj := stepc hB.out hb (hcell j hlt)
      have c2r := stepc hB.out hblt c2
      have hx := HL.out j hlt
      have htk := Lib.hid (HT.out j hlt)
      have hnt := Lib.hid (HNN.out j hlt)
      have hBx := Lib.hid (HB.out (l.getD j 0))
      generalize l.getD j 0 = x at *
      have hx0 := hx.1
      have hx1 := hx.2
      have hxt : x.tdiv 2 = x / 2 := by rw [Int.tdiv_eq_ediv_of_nonneg hx0]
      have hw1 : IntKind.u32.wrap (x / 2) = x / 2 := by rw [w32]; omega
      have hw2 : IntKind.i64.wrap (x / 2) = x / 2 := IntWalk.i64_in _ (by omega)
      have hBr := Lib.hid (fun q => nextw hB.out (below_draws wr q))
      clear hcell hx hB
      by_cases hxk : x / 2 < (k : Int)
      · have hge : decide (x / 2 ≥ (k : Int)) = false := by simp; omega
        have hge2 : decide ((k : Int) ≤ x / 2) = false := by simp; omega
        go_wp2
        go_quiet (fail)
        go_wp2
        exact ⟨⟨j + 1, by omega, by go_num, Lib.hid (hBr.out _), Lib.hid (by rw [htk.out, ht.out, hBx.out]; simp [hxk])⟩, by simp [intOf]; omega⟩
      · have hge : decide (x / 2 ≥ (k : Int)) = true := by simp; omega
        have hge2 : decide ((k : Int) ≤ x / 2) = true := by simp; omega
        go_wp2
        go_quiet (fail)
        go_wp2
        go_ret
        rw [hnt.out (by rw [hBx.out]; simp; omega)]
        exact ⟨rfl, hBr.out _⟩
    · obtain rfl : j = n := by omega
      go_wp2
      go_ret
      rw [← HA.out, ht.out]
      exact ⟨rfl, hB.out⟩

theorem rinput_val {w0 w : World} {B g c : Nat} {F H : Bool} {ns : List Nd} (h : Rf w0 w B g c F H ns) (hm : ns.length ≤ 200000) :
    Calls Tryz.prog 79 #[.pointer (some ⟨B, 0, none⟩)] w fun e w' => e = .returned (.tuple #[.int .u32 (2 * (ns.length : Int)), .int .i64 0]) ∧ ∃ g1 c1, Rf w0 w' B g1 c1 F H (ns ++ [⟨false, 0, 0⟩]) ∧ Kept (RK w) w w' := by
  obtain ⟨-, -, c2, f2⟩ := h.cells
  have f2 := f2 2
  have hlt := h.blt
  have hglt := h.glt
  have HR := Lib.hid h.row
  have HF := Lib.hid h
  have hne2 : some B ≠ Value.ownBlock (.slice (some ⟨g, 0, none⟩) ns.length c) := by have := h.ne; simpa [Value.ownBlock] using this
  have hp := h.pos
  have hs0 := h.below.size
  obtain ⟨i0, hi, hz0, hz1, hz2⟩ := info_parts info_rnode
  have g0 : decide ((278528 : Int) < (ns.length : Int)) = false := by simp; omega
  generalize hk : ns.length = k at *
  have hk := Lib.hid hk
  clear h
  go_enter Tryz.func79, Tryz.ntmps79
  go_wp2_with (at_builtin; refine wpList_append_lies _ rfl _ _ 125 rfl w0.heap.size 129 i0 (.agg #[.bool false, .int .u32 0, .int .u32 0]) 3 12 Tryz.underlying125 hi hz0 hz1 hz2 rfl (by decide) (.slice (some ⟨g, 0, none⟩) k c) k _ rfl (HR.out.alloc _) ⟨w.heap.size, 0, none⟩ 1 1 [.bool true, .int .u32 0, .int .u32 0] rfl rfl (news3 (by go_simp) (by go_simp) (by go_simp)) (by simp [Value.oneCell']) (by decide) (by unfold maxLen; omega) (by omega) (by simp; omega) _ rfl ?_; intro g1 cap1 w1 hown1 hgrow1 hat1 hlt1; obtain ⟨x0, x1⟩ := grow_box hgrow1 (b := B) (o := 2) (v := .slice (some ⟨g, 0, none⟩) k c) (by go_simp) (by go_simp) hne2)
  go_ret2
  obtain ⟨r1, r2⟩ := rf_next HF.out ((Below.refl _ _).alloc (Nat.le_refl _) _) ⟨false, 0, 0⟩ (by rw [hk.out]; exact hown1) hgrow1 hat1
  rw [hk.out] at r1 r2
  exact ⟨by congr 4, _, _, r1, r2⟩

/-- What Many of two comes to. -/
def manyR (T : Gr → Int → Int → Gr × Int) (G : Gr) (b c : Int) : Gr := if allHas G [b, c] = true then (T G b c).1 else G
theorem rmany_any {op : Int} {T : Gr → Int → Int → Gr × Int} {k : Nat} (hT : RTwo 190000 op T) (hO : OpOk T k) (hk3 : k ≤ 3) {w0 w : World} {B g c : Nat} {G : Gr} (h : Rf w0 w B g c G.fold G.hash G.nodes) (hW : Wf G) (hm : G.nodes.length ≤ 190000) {x y : Int} (hx : IsLit x) (hy : IsLit y) {a : Option Addr} {cap : Nat} (hs : Row .u32 w a 2 [x, y]) :
    Calls Tryz.prog 78 #[.pointer (some ⟨B, 0, none⟩), .int .i64 op, .slice a 2 cap] w fun e w' => (∃ v1 v2, e = .returned (.tuple #[.int .u32 v1, .int .i64 v2])) ∧ ∃ g1 c1, Rf w0 w' B g1 c1 (manyR T G x y).fold (manyR T G x y).hash (manyR T G x y).nodes ∧ Kept (RK w) w w' := by
  have hth := Lib.hid (rhas_any h (by omega) (cap := cap) hs (by intro z hz; simp at hz; rcases hz with rfl | rfl <;> assumption))
  obtain ⟨b, off, rfl, hb, hc⟩ := hs.at (by omega)
  have e0 : w.cell? ⟨b, off, none⟩ = some (.int .u32 x) := by have := hc 0 (by omega); simpa using this
  have e1 : w.cell? ⟨b, off + 1, none⟩ = some (.int .u32 y) := by have := hc 1 (by omega); simpa using this
  unfold manyR
  cases hA : allHas G [x, y] with
  | false =>
    rw [hA] at hth
    have hst := Lib.hid (fun w2 (hb2 : Below w.heap.size w w2) => h.step hb2)
    simp only [if_neg (show ¬ (false = true) by simp)]
    clear h hs hc
    go_enter Tryz.func78, Tryz.ntmps78
    go_wp2_with (go_at_call 59; (with_reducible refine hth.out.mono ?_); rintro e w2 ⟨rfl, hB2⟩)
    go_ret2
    exact ⟨⟨_, _, rfl⟩, g, c, hst.out _ hB2, RK.of_below hB2⟩
  | true =>
    rw [hA] at hth
    have ha := allHas_there (l := [x, y]) (by intro z hz; simp at hz; rcases hz with rfl | rfl <;> assumption) hA
    have hxT := ha x (by simp)
    have hyT := ha y (by simp)
    have hg := hO G x y hW hxT hyT (by omega)
    have htw := Lib.hid (fun w2 (hb2 : Below w.heap.size w w2) => hT w0 w2 B g c G x y (h.step hb2) hW hm hxT hyT)
    have hfo := Lib.hid (And.intro hg.le.fold hg.le.hash)
    simp only [if_true]
    clear h hs hc hg ha hxT hyT hA
    generalize T G x y = r at *
    go_enter Tryz.func78, Tryz.ntmps78
    go_wp2_with (go_at_call 59; (with_reducible refine hth.out.mono ?_); rintro e w2 ⟨rfl, hB2⟩; have d0 := stepc hB2 hb e0; have d1 := stepc hB2 hb e1; have htw2 := Lib.hid (htw.out _ hB2); have hB2 := Lib.hid hB2)
    go_loopw [8, 9, 10, 11, 30] (fun s8 s9 _ _ _ wr => (s9 = .int .i64 1 ∧ s8 = .int .u32 x ∧ wr = w2) ∨ (s9 = .int .i64 2 ∧ (∃ v, s8 = .int .u32 v) ∧ ∃ g1 c1, Hid (Rf w0 wr B g1 c1 G.fold G.hash r.1.nodes) ∧ Hid (Kept (RK w2) w2 wr))) (fun _ s9 _ _ _ _ => 2 - (intOf s9).toNat)
    case atStart => exact .inl ⟨rfl, rfl, rfl⟩
    case round =>
      rcases hrel with ⟨rfl, rfl, rfl⟩ | ⟨rfl, ⟨v, rfl⟩, g1, c1, hR, hK⟩
      · go_wp2_with (go_at_call 111; (with_reducible refine htw2.out.mono ?_); rintro e w3 ⟨rfl, g3, c3, hR3, hK3⟩)
        exact ⟨.inr ⟨rfl, ⟨_, rfl⟩, g3, c3, Lib.hid hR3, Lib.hid hK3⟩, by decide⟩
      · clear d0 d1 htw2 htw
        go_wp2
        go_ret2
        refine ⟨⟨_, _, rfl⟩, g1, c1, ?_, RK.trans (RK.of_below hB2.out) hK.out⟩
        rw [hfo.out.1, hfo.out.2]
        exact hR.out
theorem rtwo_and' : RTwo 190000 1 andG := fun w0 w B g c G a b h hW hm ha hb => rtwo_and w0 w B g c G a b h hW (by omega) ha hb

-- May a bus have this name?
set_option maxHeartbeats 4000000 in
theorem rMayName_any (s : ByteArray) (w : World) :
    Calls Tryz.prog 67 #[.string s] w fun e w' => e = .returned (.bool (mayName s)) ∧ w = w' := by
  by_cases h1 : s.size < 1
  · have e : mayName s = false := by unfold mayName; simp; omega
    rw [e]
    have h1' : decide ((s.size : Int) < 1) = true := by simp; omega
    go_enter Tryz.func67, Tryz.ntmps67
    go_wp2
    go_ret
    exact ⟨rfl, rfl⟩
  by_cases h2 : 80 < s.size
  · have e : mayName s = false := by unfold mayName; simp; omega
    rw [e]
    have h1' : decide ((s.size : Int) < 1) = false := by simp; omega
    have h2' : decide (80 < (s.size : Int)) = true := by simp; omega
    go_enter Tryz.func67, Tryz.ntmps67
    go_wp2
    go_ret
    exact ⟨rfl, rfl⟩
  have hm : Hid (mayName s = spellAll s.data.toList) := Lib.hid (by unfold mayName; rw [show decide (1 ≤ s.size) = true by simp; omega, show decide (s.size ≤ 80) = true by simp; omega]; rfl)
  have hl : Hid (s.data.toList.length = s.size) := Lib.hid (Array.length_toList)
  have h1' : decide ((s.size : Int) < 1) = false := by simp; omega
  have h2' : decide (80 < (s.size : Int)) = false := by simp; omega
  rw [hm.out]
  go_enter Tryz.func67, Tryz.ntmps67
  go_wp2
  go_loopw [3, 4, 5, 6] (fun i _ _ _ wr => wr = w ∧ ∃ j : Nat, j ≤ s.size ∧ i = .int .i64 j ∧ Hid (spellAll (s.data.toList.take j) = true)) (fun i _ _ _ _ => s.size - (intOf i).toNat)
  case atStart => exact ⟨rfl, 0, Nat.zero_le _, rfl, Lib.hid rfl⟩
  case round =>
    obtain ⟨rfl, j, hj, rfl, ht⟩ := hrel
    by_cases hlt : j < s.size
    · have hn := Lib.hid (spell_not s.data.toList j (by rw [hl.out]; exact hlt))
      have htk := Lib.hid (spell_take s.data.toList j (by rw [hl.out]; exact hlt))
      have e1 : s.data.toList.getD j 0 = s[j] := by
        rw [List.getD_eq_getElem?_getD, Array.getElem?_toList, Array.getElem?_eq_getElem hlt]; rfl
      rw [e1] at hn htk
      obtain ⟨b, hb⟩ : ∃ b : Int, ((s[j].toNat : Nat) : Int) = b := ⟨_, rfl⟩
      rw [hb] at hn htk
      obtain ⟨p1, hp1⟩ : ∃ p, decide (b ≥ 97) = p := ⟨_, rfl⟩
      obtain ⟨p2, hp2⟩ : ∃ p, decide (b ≤ 122) = p := ⟨_, rfl⟩
      obtain ⟨p3, hp3⟩ : ∃ p, decide (b ≥ 65) = p := ⟨_, rfl⟩
      obtain ⟨p4, hp4⟩ : ∃ p, decide (b ≤ 90) = p := ⟨_, rfl⟩
      obtain ⟨p5, hp5⟩ : ∃ p, decide (b ≥ 48) = p := ⟨_, rfl⟩
      obtain ⟨p6, hp6⟩ : ∃ p, decide (b ≤ 57) = p := ⟨_, rfl⟩
      obtain ⟨p7, hp7⟩ : ∃ p, (b == 95) = p := ⟨_, rfl⟩
      obtain ⟨p8, hp8⟩ : ∃ p, (b == 64) = p := ⟨_, rfl⟩
      obtain ⟨p9, hp9⟩ : ∃ p, (b == 63) = p := ⟨_, rfl⟩
      have hsp : Hid (spellB b = ((((((p1 && p2) || (p3 && p4)) || (p5 && p6)) || p7) || p8) || p9)) := Lib.hid (by subst hp1 hp2 hp3 hp4 hp5 hp6 hp7 hp8 hp9; rfl)
      rw [hsp.out] at hn htk
      clear e1 hsp
      obtain ⟨LL, hLL⟩ : ∃ q, ((p1 && p2) || (p3 && p4)) = q := ⟨_, rfl⟩
      obtain ⟨DD, hDD⟩ : ∃ q, (p5 && p6) = q := ⟨_, rfl⟩
      rw [hLL, hDD] at hn htk
      go_upto_region 7 with fail
      go_cut [5] (fun s5 wx => wx = wr ∧ s5 = .bool LL)
      case first =>
        clear hn htk hDD hp5 hp6 hp7 hp8 hp9
        go_wp2
        all_goals (go_meet; exact ⟨rfl, by subst hLL; simp [*]⟩)
      case rest =>
        clear hp1 hp2 hp3 hp4 hLL
        obtain ⟨rfl, rfl⟩ := hcut
        go_upto_region 8 with fail
        go_cut [6] (fun s6 wx => wx = wc ∧ s6 = .bool DD)
        case first =>
          clear hn htk hp7 hp8 hp9
          go_wp2
          all_goals (go_meet; exact ⟨rfl, by subst hDD; simp [*]⟩)
        case rest =>
          clear hp5 hp6 hDD
          obtain ⟨rfl, rfl⟩ := hcut
          subst hp7 hp8 hp9
          go_wp2
          all_goals first
            | (go_ret; rw [hn.out (by simp_all)]; exact ⟨rfl, rfl⟩)
            | exact ⟨⟨trivial, j + 1, by omega, by go_num, Lib.hid (by rw [htk.out, ht.out]; simp_all; done)⟩, by simp [intOf]; omega⟩
    · obtain rfl : j = s.size := by omega
      rw [← hl.out, List.take_length] at ht
      go_wp2
      go_ret
      rw [ht.out]
      exact ⟨rfl, rfl⟩
end Go.Proofs.YtlkainmkhofpaaaGreat
end

section
namespace Go.Proofs.YtlkainmkhofpaaaGreat
open Go.RowKit Go.Maps Num
set_option maxRecDepth 100000

theorem RN.dkI {w0 w : World} {B Bg : Nat} {p : RPl} {N : Nt} (h : RN w0 w B Bg p N) : ∀ k, p.iv.ownBlock = some k → w0.heap.size ≤ k ∧ DK w k := fun k e => by
  obtain ⟨K, hK⟩ := h.ins
  obtain ⟨c, hc⟩ := h.ins.type e
  exact ⟨own_ge hK.own k e, _, _, _, hc, .inr (.inr (.inr (.inl rfl)))⟩
theorem RN.dkO {w0 w : World} {B Bg : Nat} {p : RPl} {N : Nt} (h : RN w0 w B Bg p N) : ∀ k, p.ov.ownBlock = some k → w0.heap.size ≤ k ∧ DK w k := fun k e => by
  obtain ⟨K, hK⟩ := h.outs
  obtain ⟨c, hc⟩ := h.outs.type e
  exact ⟨own_ge hK.own k e, _, _, _, hc, .inr (.inr (.inr (.inl rfl)))⟩
theorem RN.dkR {w0 w : World} {B Bg : Nat} {p : RPl} {N : Nt} (h : RN w0 w B Bg p N) : ∀ k, p.rv.ownBlock = some k → w0.heap.size ≤ k ∧ DK w k := fun k e => by
  obtain ⟨c, hc⟩ := own_type h.regs e
  exact ⟨own_ge h.regs k e, _, _, _, hc, .inr (.inr (.inr (.inr rfl)))⟩
/-- None of the graph's blocks, none of numbers. -/
theorem RN.apartG {w0 w : World} {B Bg : Nat} {p : RPl} {N : Nt} (h : RN w0 w B Bg p N) {v : Value} {T : Nat} (hv : ∀ k, v.ownBlock = some k → ∃ c, w.heap[k]? = some (.cells c T (0, 0))) (h1 : T ≠ 127) (h2 : T ≠ 129) (h3 : T ≠ 39) :
    ¬ (Bg = B ∨ v.ownBlock = some Bg) ∧ ¬ (p.g = B ∨ v.ownBlock = some p.g) ∧ ∀ k cur fz, (k = B ∨ v.ownBlock = some k) → w.heap[k]? ≠ some (.cells cur 39 fz) := by
  have hb := h.box
  have hG := h.g.box
  obtain ⟨cg, hg⟩ := h.g.gty
  refine ⟨?_, ?_, ?_⟩
  · rintro (e | e)
    · rw [e, hb] at hG; simp [rnBox] at hG
    · obtain ⟨c, hc⟩ := hv _ e; rw [hc] at hG; simp at hG; first | exact h1 hG | exact h1 hG.2 | exact h1 hG.2.1
  · rintro (e | e)
    · rw [e, hb] at hg; simp [rnBox] at hg
    · obtain ⟨c, hc⟩ := hv _ e; rw [hc] at hg; simp at hg; first | exact h2 hg | exact h2 hg.2 | exact h2 hg.2.1
  · rintro k cur fz (rfl | e) hh
    · rw [hb] at hh; simp [rnBox] at hh
    · obtain ⟨c, hc⟩ := hv _ e; rw [hc] at hh; simp at hh; first | exact h3 hh | exact h3 hh.1 | exact h3 hh.2.1
theorem rn_box {w0 wS wa w1 : World} {B Bg : Nat} {p : RPl} {N : Nt} (h : RN w0 wS B Bg p N) (hb : Below wS.heap.size wS wa) {v : Value} (hv : v.ownBlock ≠ some B) (hg : wa.grownBy w1 v.ownBlock) : w1.heap[B]? = some (rnBox Bg N.name p) := by
  rw [hg.block B (by have := h.lt; have := hb.size; omega) (fun e => hv e.symm), hb.block _ h.lt]; exact h.box
theorem rn_regs {w0 wS wa w1 : World} {B Bg : Nat} {p : RPl} {N : Nt} (h : RN w0 wS B Bg p N) (hb : Below wS.heap.size wS wa) {R : List Rg} {m g1 cap1 : Nat} (hm : m = R.length) (hown : w1.ownsRow w0.heap.size 117 4 (.slice (some ⟨g1, 0, none⟩) m cap1) m (rgCells R))
    (hg : wa.grownBy w1 p.rv.ownBlock) (hat : p.rv.ownBlock = some g1 ∨ g1 = wa.heap.size) : RNext w0 wS B Bg { N with regs := R } (w1.setCell ⟨B, 3, none⟩ (.slice (some ⟨g1, 0, none⟩) m cap1)) := by
  obtain ⟨hk, hD, hB0⟩ := rn_push h hb h.dkR hg 3 (.slice (some ⟨g1, 0, none⟩) m cap1)
  obtain ⟨f1, f2, f3⟩ := h.far
  obtain ⟨a1, a2, a3⟩ := h.apartG (v := p.rv) (fun k e => own_type h.regs e) (by decide) (by decide) (by decide)
  have hbox1 := rn_box h hb f2 hg
  have hlt := h.lt
  have hgb : g1 ≠ B := by
    rcases hat with e | e
    · rintro rfl; exact f2 e
    · have := hb.size; omega
  have hge : ∀ k, (k = B ∨ p.rv.ownBlock = some k) → w0.heap.size ≤ k := by
    rintro k (rfl | e)
    · exact h.lo
    · exact (h.dkR k e).1
  refine ⟨⟨{ p with rv := .slice (some ⟨g1, 0, none⟩) m cap1 }, ?_, h.g.kept hk hge a1 a2, h.ins.keptF hk (fun k e hf => ?_) a3, ?_, h.outs.keptF hk (fun k e hf => ?_) a3, h.apart, h.lo⟩, hD⟩
  · have := box_set (o := 3) hbox1 (.slice (some ⟨g1, 0, none⟩) m cap1)
    simpa [rnBox] using this
  · rcases hf with rfl | hf
    · exact f1 e
    · exact (h.rFar hf).1 e
  · subst hm; exact own_moved hown hgb
  · rcases hf with rfl | hf
    · exact f3 e
    · exact (h.rFar hf).2 e
/-- A bus more. -/
theorem rb_push {w0 wS wa w1 w2 : World} {B Bg : Nat} {p : RPl} {N : Nt} (h : RN w0 wS B Bg p N) (hb : Below wS.heap.size wS wa) {v : Value} {L : List Bus} {K : List BV} (hK : RBusAt w0 wS v L K) (hvb : v.ownBlock ≠ some B) {s : ByteArray} {la : Option Addr} {m lc : Nat} {l : List Int} (hl : URow wa la m lc l) {g cap o : Nat} {x : Value}
    (hown : w1.ownsRow w0.heap.size 124 2 (.slice (some ⟨g, 0, none⟩) (L.length + 1) cap) (L.length + 1) (bvCells K ++ [.string s, .slice la m lc])) (hg : wa.grownBy w1 v.ownBlock) (hat : v.ownBlock = some g ∨ g = wa.heap.size) (h2 : w2 = w1.setCell ⟨B, o, none⟩ x) :
    RBusRow w0 w2 (.slice (some ⟨g, 0, none⟩) (L.length + 1) cap) (L ++ [⟨s, l⟩]) := by
  subst h2
  have hlt := h.lt
  have hvt : ∀ k, v.ownBlock = some k → ∃ c, wS.heap[k]? = some (.cells c 124 (0, 0)) := fun k hk => own_type hK.own hk
  have hgb : g ≠ B := by
    rcases hat with e | e
    · rintro rfl; exact hvb e
    · have := hb.size; omega
  obtain ⟨-, -, a3⟩ := h.apartG (v := v) hvt (by decide) (by decide) (by decide)
  have hNa : ∀ k cur fz, (k = B ∨ v.ownBlock = some k) → wa.heap[k]? ≠ some (.cells cur 39 fz) := by
    intro k cur fz hp hh
    have hlk : k < wS.heap.size := by
      rcases hp with rfl | hp
      · exact hlt
      · obtain ⟨c, hc⟩ := hvt k hp; exact (Array.getElem?_eq_some_iff.1 hc).1
    rw [hb.block _ hlk] at hh
    exact a3 k cur fz hp hh
  have kS := kept_store hb hg B o x
  have ka := kept_store (Below.refl wa.heap.size wa) hg B o x
  refine ⟨K ++ [⟨s, la, m, lc⟩], ?_, by simp [hK.len], ?_⟩
  · rw [bvCells_push]
    have := own_moved (B := B) (o := o) (x := x) hown hgb
    simpa using this
  · intro i k bb e1 e2
    by_cases hi : i < K.length
    · rw [List.getElem?_append_left hi] at e1
      rw [List.getElem?_append_left (by rw [← hK.len]; exact hi)] at e2
      obtain ⟨r1, r2⟩ := hK.row i k bb e1 e2
      exact ⟨r1, r2.keptF kS a3⟩
    · have hlen := hK.len
      have hi2 := (List.getElem?_eq_some_iff.1 e1).1
      simp at hi2
      have e : i = K.length := by omega
      rw [e, List.getElem?_append_right (Nat.le_refl _)] at e1
      rw [e, hlen, List.getElem?_append_right (Nat.le_refl _)] at e2
      simp at e1 e2
      subst e1 e2
      exact ⟨rfl, hl.keptF ka hNa⟩
theorem rn_ins {w0 wS wa w1 : World} {B Bg : Nat} {p : RPl} {N : Nt} (h : RN w0 wS B Bg p N) (hb : Below wS.heap.size wS wa) {K : List BV} (hK : RBusAt w0 wS p.iv N.ins K) {s : ByteArray} {la : Option Addr} {m lc : Nat} {l : List Int} (hl : URow wa la m lc l) {g cap : Nat}
    (hown : w1.ownsRow w0.heap.size 124 2 (.slice (some ⟨g, 0, none⟩) (N.ins.length + 1) cap) (N.ins.length + 1) (bvCells K ++ [.string s, .slice la m lc])) (hg : wa.grownBy w1 p.iv.ownBlock) (hat : p.iv.ownBlock = some g ∨ g = wa.heap.size) :
    RNext w0 wS B Bg { N with ins := N.ins ++ [⟨s, l⟩] } (w1.setCell ⟨B, 2, none⟩ (.slice (some ⟨g, 0, none⟩) (N.ins.length + 1) cap)) := by
  obtain ⟨hk, hD, hB0⟩ := rn_push h hb h.dkI hg 2 (.slice (some ⟨g, 0, none⟩) (N.ins.length + 1) cap)
  obtain ⟨f1, f2, f3⟩ := h.far
  obtain ⟨a1, a2, a3⟩ := h.apartG (v := p.iv) (fun k e => h.ins.type e) (by decide) (by decide) (by decide)
  have hbox1 := rn_box h hb f1 hg
  have hrow := rb_push h hb hK f1 hl (o := 2) (x := .slice (some ⟨g, 0, none⟩) (N.ins.length + 1) cap) hown hg hat rfl
  have hge : ∀ k, (k = B ∨ p.iv.ownBlock = some k) → w0.heap.size ≤ k := by
    rintro k (rfl | e)
    · exact h.lo
    · exact (h.dkI k e).1
  have hol : ∀ k, p.ov.ownBlock = some k → k < wS.heap.size := fun k e => by obtain ⟨c, hc⟩ := h.outs.type e; exact (Array.getElem?_eq_some_iff.1 hc).1
  refine ⟨⟨{ p with iv := .slice (some ⟨g, 0, none⟩) (N.ins.length + 1) cap }, ?_, h.g.kept hk hge a1 a2, hrow, own_keptF h.regs hk (fun k e hf => ?_), h.outs.keptF hk (fun k e hf => ?_) a3, fun k e1 e2 => ?_, h.lo⟩, hD⟩
  · have := box_set (o := 2) hbox1 (.slice (some ⟨g, 0, none⟩) (N.ins.length + 1) cap)
    simpa [rnBox] using this
  · rcases hf with rfl | hf
    · exact f2 e
    · exact (h.rFar e).1 hf
  · rcases hf with rfl | hf
    · exact f3 e
    · exact h.apart k hf e
  · simp [Value.ownBlock] at e1
    subst e1
    rcases hat with h1 | h1
    · exact h.apart _ h1 e2
    · have := hol _ e2; have := hb.size; omega
theorem rn_outs {w0 wS wa w1 : World} {B Bg : Nat} {p : RPl} {N : Nt} (h : RN w0 wS B Bg p N) (hb : Below wS.heap.size wS wa) {K : List BV} (hK : RBusAt w0 wS p.ov N.outs K) {s : ByteArray} {la : Option Addr} {m lc : Nat} {l : List Int} (hl : URow wa la m lc l) {g cap : Nat}
    (hown : w1.ownsRow w0.heap.size 124 2 (.slice (some ⟨g, 0, none⟩) (N.outs.length + 1) cap) (N.outs.length + 1) (bvCells K ++ [.string s, .slice la m lc])) (hg : wa.grownBy w1 p.ov.ownBlock) (hat : p.ov.ownBlock = some g ∨ g = wa.heap.size) :
    RNext w0 wS B Bg { N with outs := N.outs ++ [⟨s, l⟩] } (w1.setCell ⟨B, 4, none⟩ (.slice (some ⟨g, 0, none⟩) (N.outs.length + 1) cap)) := by
  obtain ⟨hk, hD, hB0⟩ := rn_push h hb h.dkO hg 4 (.slice (some ⟨g, 0, none⟩) (N.outs.length + 1) cap)
  obtain ⟨f1, f2, f3⟩ := h.far
  obtain ⟨a1, a2, a3⟩ := h.apartG (v := p.ov) (fun k e => h.outs.type e) (by decide) (by decide) (by decide)
  have hbox1 := rn_box h hb f3 hg
  have hrow := rb_push h hb hK f3 hl (o := 4) (x := .slice (some ⟨g, 0, none⟩) (N.outs.length + 1) cap) hown hg hat rfl
  have hge : ∀ k, (k = B ∨ p.ov.ownBlock = some k) → w0.heap.size ≤ k := by
    rintro k (rfl | e)
    · exact h.lo
    · exact (h.dkO k e).1
  have hil : ∀ k, p.iv.ownBlock = some k → k < wS.heap.size := fun k e => by obtain ⟨c, hc⟩ := h.ins.type e; exact (Array.getElem?_eq_some_iff.1 hc).1
  refine ⟨⟨{ p with ov := .slice (some ⟨g, 0, none⟩) (N.outs.length + 1) cap }, ?_, h.g.kept hk hge a1 a2, h.ins.keptF hk (fun k e hf => ?_) a3, own_keptF h.regs hk (fun k e hf => ?_), hrow, fun k e1 e2 => ?_, h.lo⟩, hD⟩
  · have := box_set (o := 4) hbox1 (.slice (some ⟨g, 0, none⟩) (N.outs.length + 1) cap)
    simpa [rnBox] using this
  · rcases hf with rfl | hf
    · exact f1 e
    · exact h.apart k e hf
  · rcases hf with rfl | hf
    · exact f2 e
    · exact (h.rFar e).2 hf
  · simp [Value.ownBlock] at e2
    subst e2
    rcases hat with h1 | h1
    · exact h.apart _ e1 h1
    · have := hil _ e1; have := hb.size; omega
theorem rinfo_reg : (Tryz.prog.info? 117).map (fun i => (i.zero, i.size, i.bytes)) = some (some (.agg #[.int .u32 0, .int .u32 0, .int .u32 0, .bool false]), 4, 16) := by kernel_rfl
theorem rinfo_bus : (Tryz.prog.info? 124).map (fun i => (i.zero, i.size, i.bytes)) = some (some (.agg #[.string ByteArray.empty, .slice none 0 0]), 2, 40) := by kernel_rfl

set_option maxHeartbeats 1000000 in
theorem rAddReg_any {w0 w : World} {B Bg : Nat} {p : RPl} {N : Nt} (h : RN w0 w B Bg p N) (hm : N.g.nodes.length ≤ 190000) (hr : N.regs.length ≤ 10000) (i : Bool) :
    Calls Tryz.prog 75 #[.pointer (some ⟨B, 0, none⟩), .bool i] w fun e w' => (∃ v1 v2, e = .returned (.tuple #[.int .u32 v1, .int .i64 v2])) ∧ RNext w0 w B Bg (addReg N i).1 w' := by
  have hin := Lib.hid (rinput_val h.g (by omega))
  obtain ⟨ia, ic, ra, rc, oa, oc, -, -, -, c0, -, -, c3, -, -⟩ := h.cells
  have hpush := Lib.hid (fun (w2 : World) (g c : Nat) (hR : Rf w0 w2 Bg g c N.g.fold N.g.hash (N.g.nodes ++ [⟨false, 0, 0⟩])) (hk : Kept (RK w) w w2) => And.intro (h.grow (G' := inputG N.g) hR hk) hk)
  obtain ⟨i0, hi, hz0, hz1, hz2⟩ := info_parts rinfo_reg
  have hg0 : decide ((16384 : Int) ≤ (N.regs.length : Int)) = false := by simp; omega
  unfold addReg
  generalize 2 * (N.g.nodes.length : Int) = x at *
  clear h hm
  go_enter Tryz.func75, Tryz.ntmps75
  go_wp2_with (first
    | (go_at_call 79; (with_reducible refine hin.out.mono ?_); rintro e w2 ⟨rfl, g3, c4, hR3, hK3⟩; obtain ⟨hP, hK3⟩ := hpush.out _ _ _ hR3 hK3; have hP := Lib.hid hP; have hK3 := Lib.hid hK3; clear hR3 hin hpush c0 c3; obtain ⟨ja, jc, sa, sc, ta, tc, -, ev, -, d0, -, -, d3, -, fz⟩ := hP.out.cells; have f3 := fz 3; clear fz; have hne : some B ≠ (Value.slice sa N.regs.length sc).ownBlock := (by have := hP.out.far.2.1; rw [ev] at this; exact fun e => this e.symm); have hrow : Hid (w2.ownsRow w0.heap.size 117 4 (.slice sa N.regs.length sc) N.regs.length (rgCells N.regs)) := (by have := hP.out.regs; unfold RRegRow at this; rw [ev] at this; exact this); have hlb := hP.out.lt; have hs0 := hP.out.below.size; simp only [] at d0 d3 f3 hne hlb)
    | (at_builtin; refine wpList_append_lies _ rfl _ _ 113 rfl w0.heap.size 117 i0 (.agg #[.int .u32 0, .int .u32 0, .int .u32 0, .bool false]) 4 16 Tryz.underlying113 hi hz0 hz1 hz2 rfl (by decide) (.slice sa N.regs.length sc) N.regs.length (rgCells N.regs) rfl (hrow.out.alloc _) ⟨w2.heap.size, 0, none⟩ 1 1 [.int .u32 x, .int .u32 0, .int .u32 0, .bool i] rfl rfl (news_list _ _ _) (by simp [Value.oneCell']) (by decide) (by unfold maxLen; omega) (by omega) (by simp; omega) _ rfl ?_; intro g1 cap1 w7 hown1 hgrow1 hat1 hlt1; obtain ⟨x0, x1⟩ := grow_box hgrow1 (b := B) (o := 3) (v := .slice sa N.regs.length sc) (by go_simp) (by go_simp) hne))
  go_ret2
  rw [← ev] at hgrow1 hat1
  have hq := rn_regs hP.out ((Below.refl _ _).alloc (Nat.le_refl _) _) (R := N.regs ++ [⟨x, 0, 0, i⟩]) (m := N.regs.length + 1) (by simp) (by rw [rgCells_push]; exact hown1) hgrow1 hat1
  exact ⟨⟨_, _, rfl⟩, hq.1, DK.trans (DK.of_RK hK3.out) hq.2⟩

/-- A register's D and En are others now. -/
theorem rn_set {w0 w : World} {B Bg : Nat} {p : RPl} {N : Nt} (h : RN w0 w B Bg p N) {g rc n : Nat} (hv : p.rv = .slice (some ⟨g, 0, none⟩) n rc) (i : Nat) (d en : Int) :
    RNext w0 w B Bg { N with regs := N.regs.modify i (setRg d en) } ((w.setCell ⟨g, i * 4 + 1, none⟩ (.int .u32 d)).setCell ⟨g, i * 4 + 2, none⟩ (.int .u32 en)) := by
  have hr := h.regs
  unfold RRegRow at hr
  rw [hv] at hr
  obtain ⟨a2, c2, e⟩ := own_slice hr
  simp only [Value.slice.injEq] at e
  obtain ⟨-, rfl, -⟩ := e
  have h1 := hr.stored (i * 4 + 1) (.int .u32 d)
  have h2 := h1.1.stored (i * 4 + 2) (.int .u32 en)
  have hg2 := h1.2.trans h2.2
  obtain ⟨f1, f2, f3⟩ := h.far
  have hgb : g ≠ B := by
    rintro rfl
    exact f2 (by rw [hv]; rfl)
  have hk : Kept (fun k => k = B ∨ p.rv.ownBlock = some k) w ((w.setCell ⟨g, i * 4 + 1, none⟩ (.int .u32 d)).setCell ⟨g, i * 4 + 2, none⟩ (.int .u32 en)) :=
    ⟨hg2.os, hg2.tape, hg2.output, hg2.size, fun k hlt hn => hg2.block k hlt (fun e => hn (.inr (by rw [hv]; simpa [Value.ownBlock] using e.symm)))⟩
  obtain ⟨a1, a2', a3⟩ := h.apartG (v := p.rv) (fun k e => own_type h.regs e) (by decide) (by decide) (by decide)
  have hge : ∀ k, (k = B ∨ p.rv.ownBlock = some k) → w0.heap.size ≤ k := by
    rintro k (rfl | e)
    · exact h.lo
    · exact (h.dkR k e).1
  refine ⟨⟨p, ?_, h.g.kept hk hge a1 a2', h.ins.keptF hk (fun k e hf => ?_) a3, ?_, h.outs.keptF hk (fun k e hf => ?_) a3, h.apart, h.lo⟩, hk.mono (fun k hf => ?_)⟩
  · rw [hg2.block _ h.lt (by simpa using fun e => hgb e.symm)]; exact h.box
  · rcases hf with rfl | hf
    · exact f1 e
    · exact (h.rFar hf).1 e
  · show RRegRow w0 _ p.rv (N.regs.modify i (setRg d en))
    unfold RRegRow
    rw [rgCells_set, hv, List.length_modify]
    exact h2.1
  · rcases hf with rfl | hf
    · exact f3 e
    · exact (h.rFar hf).2 e
  · rcases hf with rfl | hf
    · exact ⟨_, _, _, h.box, .inr (.inr (.inl rfl))⟩
    · exact (h.dkR k hf).2
end Go.Proofs.YtlkainmkhofpaaaGreat
end
