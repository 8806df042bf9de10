/-
  Copy: the walk.
-/
import Derived.Test.YtmljpbbnllfgbaaConeH
import Derived.Laws.EntriesVeiled
namespace Go.Proofs.Ytmljpbbnllfgbaa
open Go.RowKit Go.Maps Num
set_option maxRecDepth 100000

/-- While the inputs' literals are laid in. -/
structure CpL (w0 wr : World) (tb : Nat) (g qs qt N : Nat) (S : List Int) : Prop where
  below : Below w0.heap.size w0 wr
  slen : S.length = N
  row : wr.ownsRow w0.heap.size 40 1 (.slice (some ⟨g, 0, none⟩) N N) N (S.map (Value.int .u32))
  bs : wr.heap[qs]? = some (.cells #[.slice (some ⟨g, 0, none⟩) N N] 34 (0, 0))
  bt : wr.heap[qt]? = some (.cells #[.pointer (some ⟨tb, 0, none⟩)] 29 (0, 0))
theorem CpL.step {w0 wr w2 : World} {tb g qs qt N : Nat} {S : List Int} (h : CpL w0 wr tb g qs qt N S) (hb : Below wr.heap.size wr w2) : CpL w0 w2 tb g qs qt N S :=
  ⟨nextw h.below hb, h.slen, own_below h.row hb, (hb.block _ (Array.getElem?_eq_some_iff.1 h.bs).1).trans h.bs, (hb.block _ (Array.getElem?_eq_some_iff.1 h.bt).1).trans h.bt⟩
theorem CpL.ne {w0 wr : World} {tb g qs qt N : Nat} {S : List Int} (h : CpL w0 wr tb g qs qt N S) : w0.heap.size ≤ g ∧ qs ≠ g ∧ qt ≠ g := by
  obtain ⟨cur, hc⟩ := own_type h.row rfl
  refine ⟨own_ge h.row g rfl, ?_, ?_⟩
  · intro e; have := h.bs; rw [e, hc] at this; simp at this
  · intro e; have := h.bt; rw [e, hc] at this; simp at this
theorem CpL.set {w0 wr : World} {tb g qs qt N : Nat} {S : List Int} (h : CpL w0 wr tb g qs qt N S) (i : Nat) (x : Int) : CpL w0 (wr.setCell ⟨g, i, none⟩ (.int .u32 x)).drew tb g qs qt N (S.set i x) := by
  obtain ⟨h1, h2, h3⟩ := h.ne
  have hK := kept_set wr g i (.int .u32 x)
  refine ⟨h.below.trans (hK.below (fun k hk => by subst hk; exact h1) h.below.size), by rw [List.length_set]; exact h.slen, ?_, ?_, ?_⟩
  · have := (h.row.stored i (.int .u32 x)).1
    rw [← List.map_set] at this; exact this.drew
  · exact (hK.block _ (Array.getElem?_eq_some_iff.1 h.bs).1 h2).trans h.bs
  · exact (hK.block _ (Array.getElem?_eq_some_iff.1 h.bt).1 h3).trans h.bt
theorem CpL.cells {w0 wr : World} {tb g qs qt N : Nat} {S : List Int} (h : CpL w0 wr tb g qs qt N S) {i : Nat} (hi : i < N) : wr.cell? ⟨qs, 0, none⟩ = some (.slice (some ⟨g, 0, none⟩) N N) ∧ wr.cell? ⟨g, i, none⟩ = some (.int .u32 (S.getD i 0)) ∧ wr.frozen? ⟨g, i, none⟩ = false := by
  refine ⟨by simp [World.cell?, h.bs], ?_, h.row.frozenAt i⟩
  rw [h.row.cellAt (j := i) (by simp [h.slen]; exact hi), List.getElem?_map]
  have := h.slen
  simp [List.getD, show i < S.length by omega]
/-- The last box, and all is laid. -/
theorem CpL.full {w0 wr : World} {p0 : Pl} {T : Gr} {g qs qt N : Nat} {S : List Int} (h : CpL w0 wr p0.b g qs qt N S) (hT : Is w0 p0 T) (hW : Wf T) (hl : T.nodes.length ≤ 40000) (hS : AllThere T S) :
    CpS w0 (wr.alloc (.cells #[.func (.func 42) #[] #[.pointer (some ⟨qs, 0, none⟩)]] 92)) p0 p0 T g qs qt wr.heap.size N S := by
  have hb := (Below.refl wr.heap.size wr).alloc (Nat.le_refl _) (.cells #[.func (.func 42) #[] #[.pointer (some ⟨qs, 0, none⟩)]] 92)
  have h2 := h.step hb
  exact ⟨Step.of_below hT h2.below, hW, by omega, h.slen, hS, h2.row, h2.bs, h2.bt, Deep.blk_alloc_new _ _⟩

theorem cpL_new {w w2 w3 : World} {tb N : Nat} {S : List Int} (hB2 : Below w.heap.size w w2) (hbt : w2.heap[w.heap.size]? = some (.cells #[.pointer (some ⟨tb, 0, none⟩)] 29 (0, 0))) (hB3 : Below w2.heap.size w2 w3)
    (hown : w3.ownsRow w2.heap.size 40 1 (.slice (some ⟨w2.heap.size, 0, none⟩) N N) N (S.map (Value.int .u32))) :
    CpL w (w3.alloc (.cells #[.slice (some ⟨w2.heap.size, 0, none⟩) N N] 34)) tb w2.heap.size w3.heap.size w.heap.size N S := by
  have hb := (Below.refl w3.heap.size w3).alloc (Nat.le_refl _) (.cells #[.slice (some ⟨w2.heap.size, 0, none⟩) N N] 34)
  have hql := (Array.getElem?_eq_some_iff.1 hbt).1
  refine ⟨nextw (nextw hB2 hB3) hb, by have := hown.1; simpa using this, own_base (hown.alloc _) hB2.size, Deep.blk_alloc_new _ _, ?_⟩
  rw [hb.block _ (by have := hB3.size; omega), hB3.block _ hql]; exact hbt
/-- What Copy tells. -/
structure Copied (w : World) (p0 : Pl) (w' : World) (p' : Pl) (T' : Gr) (g n : Nat) (vs : List Int) : Prop where
  step : Step p0 w p' w' T'
  row : w'.ownsRow w.heap.size 40 1 (.slice (some ⟨g, 0, none⟩) n n) n (vs.map (Value.int .u32))

set_option maxHeartbeats 2000000 in
theorem CopyL_any {w : World} {p0 pf : Pl} {T G : Gr} (hT : Is w p0 T) (hWT : Wf T) (hTl : T.nodes.length ≤ 40000) (hI : Is w pf G) (hW : Wf G) (hm : G.nodes.length ≤ 40000) (hdis : ∀ k, p0.has k → ¬ pf.has k)
    {ba : Option Addr} {bc : Nat} {byl : List Int} (hby : Row .u32 w ba G.inputs.length byl) (hbt : AllThere T byl) {a : Option Addr} {n c : Nat} {l : List Int} (hs : Row .u32 w a n l) (hap : ∀ x, a = some x → 0 < n → ¬ p0.has x.block) (hl : AllThere G l) (hn : n ≤ 100000) :
    Calls Try.prog 13 #[.pointer (some ⟨p0.b, 0, none⟩), .pointer (some ⟨pf.b, 0, none⟩), .slice ba G.inputs.length bc, .slice a n c] w fun e w' => ∃ p' g, e = .returned (.tuple #[.slice (some ⟨g, 0, none⟩) n n, .int .i64 0]) ∧ Copied w p0 w' p' (copyG G l T byl).1 g n (Bits.row n (fun i => overV (copyG G l T byl).2 (l.getD i 0))) := by
  have hb1 : Below w.heap.size w (w.alloc (.cells #[.pointer (some ⟨p0.b, 0, none⟩)] 29)) := (Below.refl _ _).alloc (Nat.le_refl _) _
  have hmay := Lib.hid (mayStand_any (c := bc) (hT.below hb1) hWT (by omega) (hI.below hb1) hW (by omega) (hby.step hb1) (fun x hx => (hbt x hx).1))
  rw [show mayV T G.inputs.length byl = 0 from by unfold mayV; rw [if_pos hby.len, chk_ok hbt]] at hmay
  have hno := Lib.hid (fun w2 (hb : Below w.heap.size w w2) => nodes_any (hI.below hb).lay hW.pos)
  have hin := Lib.hid (fun w2 (hb : Below w.heap.size w w2) => InputsOf_any (hI.below hb) hW (by omega))
  have hok := start_ok hWT hW hbt
  have hcok := cp_ok (l := l) hW hok (by omega) _ (Nat.le_refl _)
  have hthr := Lib.hid (fun w7 g qs qt (h : CpL w w7 p0.b g qs qt G.nodes.length (inS G.nodes.length G.inputs byl G.inputs.length)) =>
    have hq : CpyQ w p0 G l (T, inS G.nodes.length G.inputs byl G.inputs.length) g qs qt w7.heap.size 0 (w7.alloc (.cells #[.func (.func 42) #[] #[.pointer (some ⟨qs, 0, none⟩)]] 92)) :=
      have hf := h.full hT hWT hTl hok.there
      ⟨hf.step.kept, fun _ => ⟨p0, hf⟩⟩
    through_copy qt w7.heap.size qs _ pf.b G a n c l _ (copy_met hI hdis hW hm hTl hok hl g qs qt w7.heap.size) hW (by omega) (hs.step (h.step ((Below.refl _ _).alloc (Nat.le_refl _) _)).below) hl hq)
  have hov := Lib.hid (fun w8 (h8 : CpyQ w p0 G l (T, inS G.nodes.length G.inputs byl G.inputs.length) 0 0 0 0 0 w8) => h8)
  clear hov
  have hin0 : ∀ k (hk : k < G.inputs.length), ∃ i : Nat, G.inputs.getD k 0 = i ∧ i < G.nodes.length := fun k hk => by
    have hg : G.inputs[k]? = some (G.inputs.getD k 0) := by simp [List.getD, hk]
    obtain ⟨m, em, m0, nd, hnd, -⟩ := hW.ins k _ hg
    exact ⟨m, em, (List.getElem?_eq_some_iff.1 hnd).1⟩
  have HIN := Lib.hid hin0
  have HBY := Lib.hid hby
  have hz := Lib.hid (made_zero .u32 G.nodes.length)
  have hS0 := Lib.hid (show inS G.nodes.length G.inputs byl 0 = List.replicate G.nodes.length 0 from rfl)
  have hSn := Lib.hid (fun k => show inS G.nodes.length G.inputs byl (k + 1) = (inS G.nodes.length G.inputs byl k).set (G.inputs.getD k 0).toNat (byl.getD k 0) from rfl)
  have hcg : Hid (copyG G l T byl = cpTo G l (T, inS G.nodes.length G.inputs byl G.inputs.length) G.nodes.length) := Lib.hid rfl
  obtain ⟨i0, hi, hz0, hz1, hz2⟩ := info_parts info_lit
  generalize inS G.nodes.length G.inputs byl = SF at *
  have hover := Lib.hid (fun w8 p g qs qt qc (h : CpS w w8 p0 p (cpTo G l (T, SF G.inputs.length) G.nodes.length).1 g qs qt qc G.nodes.length (cpTo G l (T, SF G.inputs.length) G.nodes.length).2) =>
    have hrow : Row .u32 w8 a n l := by
      refine ⟨hs.1, hs.2.1, ?_⟩
      rcases Nat.eq_zero_or_pos n with e | e
      · exact .inl e
      · obtain ⟨b, off, rfl, hbl, hc⟩ := hs.at e
        exact .inr ⟨b, off, rfl, Nat.lt_of_lt_of_le hbl h.step.kept.size, fun i hi => (kept_cell h.step.kept hbl (hap _ rfl e)).1.trans (hc i hi)⟩
    over_any a n c l g 0 G.nodes.length G.nodes.length (cpTo G l (T, SF G.inputs.length) G.nodes.length).2 (fun i => by
        by_cases hi : i < l.length
        · exact (hl _ (by simp [List.getD, hi])).1
        · rw [show l.getD i 0 = 0 by simp [List.getD, List.getElem?_eq_none (Nat.le_of_not_lt hi)]]; exact ⟨by omega, by omega⟩) (by omega) hW.pos (by omega) hcok.zero (fun i => (hcok.lits i).1) (fun i hi => (hl _ (by have := hs.len; simp [List.getD, show i < l.length by omega])).2) w8 hrow h.glo.2.1 h.at)
  have hfin := Lib.hid (fun w8 p (h : Step p0 w p w8 (cpTo G l (T, SF G.inputs.length) G.nodes.length).1) w9 (hb : Below w8.heap.size w8 w9) => h.then hb)
  have hno2 : G.nodes.length ≤ 40000 := hm
  have hil9 : G.inputs.length ≤ 40000 := by have := hW.cnt; omega
  have hcy := Lib.hid (fun g qs qt qc w8 (h : CpyQ w p0 G l (T, SF G.inputs.length) g qs qt qc G.nodes.length w8) => h.2 (Nat.le_refl _))
  rw [hcg.out]
  generalize hCP : cpTo G l (T, SF G.inputs.length) G.nodes.length = CP at *
  generalize CpyQ w p0 G l (T, SF G.inputs.length) = CQ at *
  generalize G.nodes.length = N at *
  generalize hins : G.inputs = ins at *
  clear hT hWT hTl hI hW hm hdis hby hbt hs hap hl hok hcok hin0 hcg hCP
  have HB1 := Lib.hid hb1
  clear hb1
  generalize hil : ins.length = il at *
  go_enter Try.func13, Try.ntmps13
  go_wp2_with (first
    | (go_at_call 41; (with_reducible refine hmay.out.mono ?_); rintro e w2 ⟨rfl, hB⟩; have hB2 := Lib.hid (nextw HB1.out hB); have hbt2 := Lib.hid ((hB.block w.heap.size (by simp)).trans (Deep.blk_alloc_new _ _)); have hnod := Lib.hid (hno.out _ hB2.out); clear hB)
    | (go_at_call 8; (with_reducible refine hnod.out.mono ?_); rintro e w9 ⟨rfl, rfl⟩)
    | (at_make; refine wpList_make_full _ rfl _ _ 34 rfl w2.heap.size 40 i0 (.int .u32 0) 1 Try.underlying34 hi hz0 hz1 .i64 .i64 N N N rfl rfl rfl rfl (by rw [hz2]; omega) (by unfold maxLen; omega) (Nat.le_refl _) ?_; intro w3 hown hg; have hB3 : Below w2.heap.size w2 w3 := (Below.refl w2.heap.size w2).grown hg (Nat.le_refl _) (fun _ h => (by cases h)); rw [hz.out, ← hS0.out] at hown; have hL4 : Hid (CpL w (w3.alloc (.cells #[.slice (some ⟨w2.heap.size, 0, none⟩) N N] 34)) p0.b w2.heap.size w3.heap.size w.heap.size N (SF 0)) := Lib.hid (cpL_new hB2.out hbt2.out hB3 hown); have hin2 := Lib.hid (hin.out _ hL4.out.below); generalize w2.heap.size = g at *; generalize hqs : w3.heap.size = qs at *; clear hown hg hB3 hnod)
    | (go_at_call 11; (with_reducible refine hin2.out.mono ?_); rintro e w5 ⟨ia, ic, rfl, hio, hB⟩; have hL5 := Lib.hid (hL4.out.step hB); have hio5 := Lib.hid hio; generalize hbb : (w3.alloc (.cells #[.slice (some ⟨g, 0, none⟩) N N] 34)).heap.size = ib at *; clear hB hL4))
  obtain ⟨w6, rfl⟩ : ∃ w6 : World, w6 = w5 := ⟨_, rfl⟩
  clear hmay hno hin hin2 hbt2 hz hS0 hi hz0 hz1 hz2 HB1 hbb hqs
  go_loopw [29] (fun s wr => ∃ k : Nat, k ≤ il ∧ s = .int .i64 k ∧ Hid (CpL w wr p0.b g qs w.heap.size N (SF k)) ∧ Hid (Kept (fun b => b = g) w6 wr)) (fun s _ => il - (intOf s).toNat)
  case atStart => exact ⟨0, Nat.zero_le _, rfl, hL5, Lib.hid (Kept.refl _ _)⟩
  case round =>
    obtain ⟨k, hk, rfl, hL, hK⟩ := hrel
    by_cases hlt : k < il
    · obtain ⟨ig, icc, e⟩ := own_form hio5.out (by omega)
      simp at e
      obtain ⟨rfl, rfl⟩ := e
      have hig := own_lt hio5.out
      have hig2 : ig ≠ g := by
        obtain ⟨c1, h1⟩ := own_type hio5.out rfl
        obtain ⟨c2, h2⟩ := own_type hL5.out.row rfl
        intro e; rw [e, h2] at h1; simp at h1
      obtain ⟨ni, eni, hni⟩ := HIN.out k hlt
      have hSk := Lib.hid (hSn.out k)
      have ci : wr.cell? ⟨ig, k, none⟩ = some (.int .i64 (ins.getD k 0)) := by
        rw [(kept_cell hK.out hig hig2).1, hio5.out.cellAt (j := k) (by simp [hil]; exact hlt), List.getElem?_map]
        simp [List.getD, show k < ins.length by omega]
      rw [eni] at ci hSk
      obtain ⟨b, off, rfl, hb, hcell⟩ := HBY.out.at (by omega)
      have cb := stepc hL.out.below hb (hcell k hlt)
      obtain ⟨cq, cg, cf⟩ := hL.out.cells hni
      have hLs := Lib.hid (hL.out.set ni (byl.getD k 0))
      have hKs := Lib.hid (hK.out.trans (F' := fun b => b = g) (kept_set wr g ni (.int .u32 (byl.getD k 0))) (fun x hx => .inl hx))
      rw [Int.toNat_natCast] at hSk
      generalize byl.getD k 0 = y at *
      generalize (SF k).getD ni 0 = u at *
      have hkl : (k : Int) < il := by omega
      have hniN : (ni : Int) < N := by omega
      clear hcell eni
      go_wp2
      go_still_tail 7, (by kernel_rfl)
      change wpList _ _ _ _ _ wr.drew
      go_wp2
      exact ⟨⟨k + 1, by omega, by go_num, by rw [hSk.out]; exact hLs, hKs⟩, by simp [intOf]; omega⟩
    · obtain rfl : k = il := by omega
      have hth := Lib.hid (hthr.out wr g qs w.heap.size hL.out)
      clear hL5 hK hio5 HIN HBY hSn hthr
      go_wp2_with (first
        | (go_at_call 45; (with_reducible refine hth.out.mono ?_); rintro e w8 ⟨rfl, hQ⟩; obtain ⟨p8, h8⟩ := hcy.out _ _ _ _ _ hQ; have h8 := Lib.hid h8; obtain ⟨d0, d1, d2⟩ := h8.out.cells; have hov := Lib.hid (hover.out _ _ _ _ _ _ h8.out); have hsz8 := h8.out.step.kept.size; clear hQ)
        | (go_at_call 47; (with_reducible refine hov.out.mono ?_); rintro e w9 ⟨g9, rfl, ho9, hB9⟩; have ho9 := Lib.hid ho9; have hB9 := Lib.hid hB9))
      go_ret2
      exact ⟨p8, g9, rfl, hfin.out _ _ h8.out.step _ hB9.out, own_base ho9.out hsz8⟩
end Go.Proofs.Ytmljpbbnllfgbaa
