/-
  LevelReach: the walk.
-/
import Derived.Test.YtocfchgkfaogdaaLoV
namespace Go.Proofs.Ytocfchgkfaogdaa
open Go.RowKit Go.Maps
set_option maxRecDepth 100000

section
open Go.ChangeShapes Go.WideShapes Go.ChangeAt Go.Joins
variable {H : Type} {enc : TypeId × Value → H} {w : World} {base : Nat} {held : Bool}
theorem row_in {a : Option Addr} {n c : Nat} {d : DataW H} {p : List MemPlace} {t e : Nat} {k : IntKind} (hs : Try.prog.underlying t = some (.slice e)) (he : Try.prog.underlying e = some (.int k)) (hc : Try.prog.cellsOf e = 1) (h : DataW.Trod enc Try.prog w base (fun _ => true) held t (.slice a n c) d p) :
    n ≤ c ∧ c ≤ 9223372036854775807 ∧ ∃ l, Row k w a n l ∧ ∀ z ∈ l, (Lit.int k z).wf = true := by
  obtain ⟨fuel, hf⟩ := h
  obtain ⟨a', n', c', l, e1, h1, h2, h3, h4⟩ := slice_in hs he hc hf
  simp only [Value.slice.injEq] at e1
  obtain ⟨rfl, rfl, rfl⟩ := e1
  exact ⟨h1, h2, l, h3, h4⟩
end

/-- A row of bools that the law makes itself. -/
structure ATB (wA wr : World) (g n : Nat) (A : List Bool) : Prop where
  low : Below wA.heap.size wA wr
  row : wr.ownsRow wA.heap.size 4 1 (.slice (some ⟨g, 0, none⟩) n n) n (bools A)
  len : A.length = n
theorem ATB.set {wA wr : World} {g n : Nat} {A : List Bool} (h : ATB wA wr g n A) (k : Nat) (x : Bool) : ATB wA (wr.setCell ⟨g, k, none⟩ (.bool x)) g n (A.set k x) := by
  have hb : wA.heap.size ≤ g := own_ge h.row g rfl
  refine ⟨h.low.trans ((Below.refl wA.heap.size wr).setCell (p := ⟨g, k, none⟩) hb _), ?_, by simp [h.len]⟩
  rw [show bools (A.set k x) = (bools A).set k (.bool x) by simp [bools, List.map_set]]
  exact (h.row.stored k (.bool x)).1
theorem ATB.below {wA wr wq : World} {g n : Nat} {A : List Bool} (h : ATB wA wr g n A) (hb : Below wr.heap.size wr wq) : ATB wA wq g n A := ⟨nextw h.low hb, own_below h.row hb, h.len⟩
theorem ATB.cell {wA wr : World} {g n : Nat} {A : List Bool} (h : ATB wA wr g n A) {k : Nat} (hk : k < n) : wr.cell? ⟨g, k, none⟩ = some (.bool (A.getD k false)) ∧ wr.frozen? ⟨g, k, none⟩ = false :=
  ⟨by rw [h.row.cellAt k (by omega), bools_get A (by rw [h.len]; exact hk)], h.row.frozenAt k⟩
theorem rc_from {N : List (List Int)} {F : List Int} {i : Nat} : Rc N F i ↔ ∃ x ∈ F, Rc N [x] i := by
  constructor
  · intro h
    induction h with
    | base hb => exact ⟨_, hb, .base (by simp)⟩
    | step _ hk ih => obtain ⟨x, hx, h1⟩ := ih; exact ⟨x, hx, .step h1 hk⟩
  · rintro ⟨x, hx, h⟩
    induction h with
    | base hb => simp at hb; subst hb; exact .base hx
    | step _ hk ih => exact .step ih hk
theorem rc_why {N : List (List Int)} {F : List Int} {i : Nat} (h : Rc N F i) : (i : Int) ∈ F ∨ ∃ k, Rc N F k ∧ i ∈ nd N k := by
  cases h with
  | base hb => exact .inl hb
  | step h1 hk => exact .inr ⟨_, h1, hk⟩
theorem allT_of {n : Nat} {F : List Int} (h : ∀ z ∈ F, 0 ≤ z ∧ z < (n : Int)) : allT n F = true := by
  unfold allT
  rw [List.all_eq_true]
  intro z hz
  have := h z hz
  unfold isT
  simp
  omega
theorem rch_ok {N : List (List Int)} {F : List Int} (hm : mayN N = true) (hF : allT N.length F = true) : rchE N F = 0 ∧ rchL N F = rcL N F := by
  have e : rchE N F = 0 := by simp [rchE, hm, hF]
  exact ⟨e, by simp [rchL, e]⟩

theorem reach_one {w : World} {a : Option Addr} {n c : Nat} {N : List (List Int)} (h : RR w a n N) (hn : n ≤ 40) (hm : mayN N = true) (hr : ∀ i, (N.getD i []).length ≤ 10) {x : Nat} (hx : x < n) :
    Calls Try.prog 16 #[.slice a n c, .slice (some ⟨w.heap.size, 0, none⟩) 1 1] (w.alloc (.cells #[.int .i64 (x : Int)] 3)) fun e w' => ∃ (va : Option Addr) (ca : Nat), e = .returned (.tuple #[.slice va n ca, .int .i64 0]) ∧ w'.ownsRow w.heap.size 4 1 (.slice va n ca) n (bools (rcL N [(x : Int)])) ∧ Below w.heap.size w w' := by
  have hb : Below w.heap.size w (w.alloc (.cells #[.int .i64 (x : Int)] 3)) := (Below.refl _ _).alloc (Nat.le_refl _) _
  have hl := h.len
  have hT : Row .i64 (w.alloc (.cells #[.int .i64 (x : Int)] 3)) (some ⟨w.heap.size, 0, none⟩) 1 [(x : Int)] := lit_row w [(x : Int)] (by simp)
  obtain ⟨e1, e2⟩ := rch_ok hm (F := [(x : Int)]) (by rw [hl]; exact allT_of (fun z hz => by simp at hz; omega))
  have hre := Reach_any (h.step hb) hT (by omega) (by omega) (fun i => by have := hr i; omega) c 1
  rw [e1, e2, rcL_len, hl] at hre
  refine hre.mono ?_
  rintro e w' ⟨va, ca, rfl, hs, hb2⟩
  exact ⟨va, ca, rfl, own_base hs (by simp), nextw hb hb2⟩

set_option maxHeartbeats 16000000 in
theorem LevelReach_any {w : World} {a fa : Option Addr} {n c fn fc : Nat} {B : List (List Int)} {fl : List Int} (h : RRk .u8 w a n B) (hc : n ≤ c) (hcm : c ≤ 9223372036854775807) (hB : ∀ i, i < n → ∀ z ∈ B.getD i [], (Lit.int .u8 z).wf = true) (hf : Row .u8 w fa fn fl) (hfw : ∀ z ∈ fl, (Lit.int .u8 z).wf = true) :
    Calls Try.prog 6 #[.slice a n c, .slice fa fn fc] w fun e w' => e = .returned (.bool true) ∧ Below w.heap.size w w' := by
  obtain ⟨i0, hi, hz0, hz1, hz2⟩ := info_parts info_int
  obtain ⟨j0, ji, jz0, jz1, jz2⟩ := info_parts info_bool
  have hbr := Lib.hid (brought_any h hc hcm hB)
  have hwk := Lib.hid (fun w => wakes_any w)
  have hfn := hf.le
  have hfll := hf.len
  have HF := Lib.hid hf
  have HW := Lib.hid hfw
  clear h hB hf hfw
  go_enter Try.func6, Try.ntmps6
  go_wp2_with (go_at_call 26; (with_reducible refine hbr.out.mono ?_); rintro e w1 ⟨ov, m, V, U, rfl, hm40, hR, hU⟩; obtain ⟨na, nc, N, rfl, hnc, hncm, hN, hNl, hmay, hrow⟩ := hR.use hm40 hU; have hB1 := Lib.hid hR.low; have HN := Lib.hid hN; have HM := Lib.hid hmay; have HR := Lib.hid hrow; have HL := Lib.hid hNl; clear hR hU hN hmay hrow hNl)
  clear hbr
  go_loopw [6, 27] (fun s t wr => ∃ (i p : Nat) (F : List Int) (ta : Option Addr) (tc : Nat), s = .slice ta p tc ∧ t = .int .i64 i ∧ i ≤ fn ∧ p ≤ i ∧ p ≤ 10 ∧ F.length = p ∧ Hid (Below w1.heap.size w1 wr) ∧ Hid (wr.ownsRow w1.heap.size 3 1 (.slice ta p tc) p (ints F)) ∧ Hid (∀ z ∈ F, 0 ≤ z ∧ z < (m : Int))) (fun _ t _ => fn - (RowKit.intOf t).toNat)
  case atStart => exact ⟨0, 0, [], none, 0, rfl, rfl, by omega, by omega, by omega, rfl, Lib.hid (Below.refl _ _), Lib.hid (own_nil _ _ _), Lib.hid (fun z hz => by simp at hz)⟩
  case round =>
    obtain ⟨i, p, F, ta, tc, rfl, rfl, hin, hpi, hp10, hFl, hB, hown, hF⟩ := hrel
    by_cases hlt : i < fn
    · obtain ⟨rb, ro, rfl, hrb, hrc⟩ := HF.out.at (by omega)
      have c1 := stepc (nextw hB1.out hB.out) hrb (hrc i hlt)
      have hil : i < fl.length := by omega
      rw [getD_at hil] at c1
      obtain ⟨y0, y1⟩ := bounds_u8 (HW.out _ (List.getElem_mem hil))
      generalize fl[i] = z at *
      obtain ⟨y, rfl⟩ : ∃ y : Nat, z = (y : Int) := ⟨z.toNat, by omega⟩
      have hii : (i : Int) < fn := by omega
      have hls := hB.out.size
      clear hrc
      by_cases h10 : i < 10
      · by_cases hm0 : m = 0
        · subst hm0
          go_wp2
          exact ⟨⟨i + 1, p, F, ta, tc, rfl, by go_num, by omega, by omega, by omega, hFl, hB, hown, hF⟩, by simp [RowKit.intOf]; omega⟩
        · have hmz : 0 < m := by omega
          have hmd : ((y : Int)).tmod (m : Int) = ((y % m : Nat) : Int) := by
            rw [Int.tmod_eq_emod_of_nonneg (by omega)]; rfl
          have hyl : y % m < m := Nat.mod_lt _ (by omega)
          have hF2 : Hid (∀ z ∈ F ++ [((y % m : Nat) : Int)], 0 ≤ z ∧ z < (m : Int)) := Lib.hid (fun z hz => by
            rcases List.mem_append.1 hz with hz | hz
            · exact hF.out z hz
            · simp at hz; omega)
          generalize hyy : y % m = x at *
          clear hF
          go_wp2_with (at_builtin; refine wpList_append_lies _ rfl _ _ 23 rfl w1.heap.size 3 i0 (.int .i64 0) 1 8 Try.underlying23 hi hz0 hz1 hz2 rfl (by decide) (.slice ta p tc) p _ rfl (hown.out.alloc _) ⟨_, 0, none⟩ 1 1 [.int .i64 (x : Int)] rfl rfl (news1 _ _ _) (by simp [Value.oneCell']) (by decide) (by unfold maxLen; omega) (by omega) (by simp; omega) _ rfl ?_; intro g1 cap1 w8 hown8 hgrow8 hat8 hlt8)
          exact ⟨⟨i + 1, p + 1, F ++ [(x : Int)], some ⟨g1, 0, none⟩, cap1, rfl, by go_num, by omega, by omega, by omega, by simp [hFl], Lib.hid ((hB.out.alloc hls _).grown hgrow8 (by simp; omega) (fun k hk => own_ge hown.out k hk)), Lib.hid (by rw [show ints (F ++ [(x : Int)]) = ints F ++ [.int .i64 (x : Int)] by simp [ints]]; exact hown8), hF2⟩, by simp [RowKit.intOf]; omega⟩
      · have hi10 : ¬ (i : Int) < 10 := by omega
        go_wp2
        exact ⟨⟨i + 1, p, F, ta, tc, rfl, by go_num, by omega, by omega, by omega, hFl, hB, hown, hF⟩, by simp [RowKit.intOf]; omega⟩
    · obtain rfl : i = fn := by omega
      clear HF HW hlt
      obtain ⟨wa, rfl⟩ : ∃ wa : World, wa = wr := ⟨_, rfl⟩
      have hT := Lib.hid (Row.of_own hown.out hFl (by omega))
      have hFok := Lib.hid (rch_ok HM.out (F := F) (by rw [HL.out]; exact allT_of hF.out))
      have hre0 := Reach_any (HN.out.step hB.out) hT.out (by omega) (by omega) (fun i => by have := HR.out i; omega) nc tc
      rw [hFok.out.1, hFok.out.2, rcL_len, HL.out] at hre0
      have hre := Lib.hid hre0
      have hz := Lib.hid (made_false m)
      clear hre0 hown
      go_wp2_with (first
        | (go_at_call 16; (with_reducible refine hre.out.mono ?_); rintro e w2 ⟨sa, sc, rfl, hs2, hb⟩; have hS2 := Lib.hid (BRow.of_own hs2 (by rw [rcL_len]; exact HL.out) (by omega)); have hB2 := Lib.hid hb; clear hs2 hb)
        | (go_at_call 25; (with_reducible refine (hwk.out _).mono ?_); rintro e w3 ⟨rfl, hb⟩; have hB3 := Lib.hid (nextw hB.out (nextw hB2.out hb)); have hS3 := Lib.hid (hS2.out.step hb); have hT3 := Lib.hid (hT.out.step (nextw hB2.out hb)); clear hb hS2 hB2 hT)
        | (at_make; refine wpList_make_full _ rfl _ _ 33 rfl w3.heap.size 4 j0 (.bool false) 1 Try.underlying33 ji jz0 jz1 .i64 .i64 m m m rfl rfl rfl rfl (by rw [jz2]; omega) (by unfold maxLen; omega) (Nat.le_refl _) ?_; intro w4 hown hg; rw [hz.out] at hown; have hAT : Hid (ATB w3 w4 w3.heap.size m (List.replicate m false)) := Lib.hid ⟨(Below.refl w3.heap.size w3).grown hg (Nat.le_refl _) (fun _ h => (by cases h)), hown, by simp⟩; clear hown hg))
      have HN3 := Lib.hid (HN.out.step hB3.out)
      have hlz3 := hAT.out.low.size
      clear hre hwk
      generalize hg : w3.heap.size = g at hAT ⊢
      go_loopw [72] (fun s wr => ∃ (t : Nat) (G : List Bool), s = .int .i64 t ∧ t ≤ p ∧ Hid (ATB w3 wr g m G) ∧ Hid (∀ k, k < m → (G.getD k false = true ↔ ∃ x ∈ F.take t, Rc N [x] k))) (fun s _ => p - (RowKit.intOf s).toNat)
      case atStart => exact ⟨0, _, rfl, by omega, hAT, Lib.hid (fun k hk => by
        have : (List.replicate m false).getD k false = false := by rw [List.getD_eq_getElem?_getD, List.getElem?_replicate]; split <;> rfl
        rw [this]; simp)⟩
      case round =>
        clear hAT
        obtain ⟨t, G, rfl, ht, hA, hG⟩ := hrel
        by_cases htp : t < p
        · obtain ⟨tb, tq, rfl, htb, htc⟩ := hT3.out.at (by omega)
          have c1 := stepc hA.out.low htb (htc t htp)
          have htl : t < F.length := by omega
          rw [getD_at htl] at c1
          have hmem := List.getElem_mem htl
          have hz01 := hF.out _ hmem
          have htk : F.take (t + 1) = F.take t ++ [F[t]] := List.take_succ_eq_append_getElem htl
          generalize F[t] = z at *
          obtain ⟨x, rfl⟩ : ∃ x : Nat, z = (x : Int) := ⟨z.toNat, by omega⟩
          have hxm : x < m := by omega
          obtain ⟨ib, io, rfl, hib, hic⟩ := hS3.out.at (by omega)
          have c2 := stepc hA.out.low hib (hic x hxm)
          rw [(rcL_get (by rw [HL.out]; exact hxm)).2 (.base hmem)] at c2
          have hone := Lib.hid (reach_one (c := nc) (HN3.out.step hA.out.low) hm40 HM.out HR.out hxm)
          have hti : (t : Int) < p := by omega
          have hxi : (x : Int) < m := by omega
          have htk := Lib.hid htk
          have hls := hA.out.low.size
          have hgl : g < wr.heap.size := own_lt hA.out.row
          obtain ⟨wb, rfl⟩ : ∃ wb : World, wb = wr := ⟨_, rfl⟩
          clear htc hic hmem
          go_wp2_with (go_at_call 16; (with_reducible refine hone.out.mono ?_); rintro e w5 ⟨va, ca, rfl, hro, hb⟩; have hRo := Lib.hid hro; have hA5 := Lib.hid (hA.out.below hb); have c2b := stepc hb (Nat.lt_of_lt_of_le hib hls) c2; clear hro hb)
          go_loopw [101] (fun s wq => ∃ (k : Nat) (G2 : List Bool), s = .int .i64 k ∧ k ≤ m ∧ Hid (ATB w3 wq g m G2) ∧ Hid (wq.ownsRow wb.heap.size 4 1 (.slice va m ca) m (bools (rcL N [(x : Int)]))) ∧ Hid (∀ j, j < m → (G2.getD j false = true ↔ (∃ x ∈ F.take t, Rc N [x] j) ∨ (j < k ∧ Rc N [(x : Int)] j)))) (fun s _ => m - (RowKit.intOf s).toNat)
          case atStart => exact ⟨0, G, rfl, by omega, hA5, hRo, Lib.hid (fun j hj => by rw [hG.out j hj]; simp)⟩
          case round =>
            clear hA hA5 hRo hone
            obtain ⟨k, G2, rfl, hk, hA, hRo, hG2⟩ := hrel
            by_cases hkm : k < m
            · obtain ⟨cg, fg⟩ := hA.out.cell hkm
              obtain ⟨og, oc2, eo⟩ := own_form hRo.out (by omega)
              have hro := hRo.out
              rw [eo] at hro
              have co : wr.cell? ⟨og, k, none⟩ = some (.bool ((rcL N [(x : Int)]).getD k false)) := by
                rw [hro.cellAt k (by omega), bools_get _ (by rw [rcL_len, HL.out]; exact hkm)]
              simp only [Value.slice.injEq, true_and] at eo
              obtain ⟨rfl, rfl⟩ := eo
              have hog : og ≠ g := by have := own_ge hro og rfl; omega
              have hki : (k : Int) < m := by omega
              have hrc := rcL_get (N := N) (F := [(x : Int)]) (i := k) (by rw [HL.out]; exact hkm)
              have hset := Lib.hid (fun b => hA.out.set k b)
              have hro2 := Lib.hid (fun (b : Bool) => (show (wr.setCell ⟨g, k, none⟩ (.bool b)).ownsRow wb.heap.size 4 1 (.slice (some ⟨og, 0, none⟩) m ca) m (bools (rcL N [(x : Int)])) from ownsRow_setCell_other hro (by simp [Value.ownBlock]; exact hog) _))
              have hnx : Hid (∀ b : Bool, (b = true ↔ (G2.getD k false = true ∨ Rc N [(x : Int)] k)) → ∀ j, j < m → ((G2.set k b).getD j false = true ↔ (∃ x ∈ F.take t, Rc N [x] j) ∨ (j < k + 1 ∧ Rc N [(x : Int)] j))) := Lib.hid (fun b hb j hj => by
                rw [getDb_set, hA.out.len]
                by_cases e : k = j
                · subst e
                  rw [if_pos ⟨rfl, hkm⟩, hb, hG2.out k hkm]
                  constructor
                  · rintro ((h | ⟨h, -⟩) | h)
                    · exact .inl h
                    · omega
                    · exact .inr ⟨by omega, h⟩
                  · rintro (h | ⟨-, h⟩)
                    · exact .inl (.inl h)
                    · exact .inr h
                · rw [if_neg (fun h => e h.1), hG2.out j hj]
                  constructor
                  · rintro (h | ⟨h1, h2⟩)
                    · exact .inl h
                    · exact .inr ⟨by omega, h2⟩
                  · rintro (h | ⟨h1, h2⟩)
                    · exact .inl h
                    · exact .inr ⟨by omega, h2⟩)
              clear hA hRo hG2 hro
              rcases (show G2.getD k false = true ∨ G2.getD k false = false by cases G2.getD k false <;> simp) with h1 | h1
              · rw [h1] at cg
                have r := Lib.hid (hnx.out true ⟨fun _ => .inl h1, fun _ => rfl⟩)
                clear hnx h1 hrc
                go_wp2
                exact ⟨⟨k + 1, _, by go_num, by omega, Lib.hid (hset.out true), Lib.hid (hro2.out true), r⟩, by simp [RowKit.intOf]; omega⟩
              · rw [h1] at cg
                rcases (show (rcL N [(x : Int)]).getD k false = true ∨ (rcL N [(x : Int)]).getD k false = false by cases (rcL N [(x : Int)]).getD k false <;> simp) with h2 | h2
                · have r := Lib.hid (hnx.out true ⟨fun _ => .inr (hrc.1 h2), fun _ => rfl⟩)
                  rw [h2] at co
                  clear hnx h1 hrc h2
                  go_wp2
                  exact ⟨⟨k + 1, _, by go_num, by omega, Lib.hid (hset.out true), Lib.hid (hro2.out true), r⟩, by simp [RowKit.intOf]; omega⟩
                · have h3 : ¬ Rc N [(x : Int)] k := fun h => by have := hrc.2 h; rw [h2] at this; cases this
                  have r := Lib.hid (hnx.out false ⟨fun h => (by cases h), fun h => h.elim (fun h => by rw [h1] at h; cases h) (fun h => absurd h h3)⟩)
                  rw [h2] at co
                  clear hnx h1 hrc h2 h3
                  go_wp2
                  exact ⟨⟨k + 1, _, by go_num, by omega, Lib.hid (hset.out false), Lib.hid (hro2.out false), r⟩, by simp [RowKit.intOf]; omega⟩
            · obtain rfl : k = m := by omega
              have hG3 : Hid (∀ j, j < k → (G2.getD j false = true ↔ ∃ x ∈ F.take (t + 1), Rc N [x] j)) := Lib.hid (fun j hj => by
                rw [hG2.out j hj, htk.out]
                constructor
                · rintro (⟨y, hy, h⟩ | ⟨-, h⟩)
                  · exact ⟨y, by simp [hy], h⟩
                  · exact ⟨x, by simp, h⟩
                · rintro ⟨y, hy, h⟩
                  rcases List.mem_append.1 hy with hy | hy
                  · exact .inl ⟨y, hy, h⟩
                  · simp at hy; subst hy; exact .inr ⟨hj, h⟩)
              clear hG2 hRo hG htk
              go_wp2
              exact ⟨⟨t + 1, G2, by go_num, by omega, hA, hG3⟩, by simp [RowKit.intOf]; omega⟩
        · obtain rfl : t = p := by omega
          have hGF : Hid (∀ k, k < m → (G.getD k false = true ↔ Rc N F k)) := Lib.hid (fun k hk => by rw [hG.out k hk, ← hFl, List.take_length, ← rc_from])
          clear hG
          obtain ⟨wb, rfl⟩ : ∃ wb : World, wb = wr := ⟨_, rfl⟩
          go_wp2_with (at_make; refine wpList_make_full _ rfl _ _ 33 rfl wb.heap.size 4 j0 (.bool false) 1 Try.underlying33 ji jz0 jz1 .i64 .i64 m m m rfl rfl rfl rfl (by rw [jz2]; omega) (by unfold maxLen; omega) (Nat.le_refl _) ?_; intro w5 hown hg; rw [hz.out] at hown; have hDT : Hid (ATB wb w5 wb.heap.size m (List.replicate m false)) := Lib.hid ⟨(Below.refl wb.heap.size wb).grown hg (Nat.le_refl _) (fun _ h => (by cases h)), hown, by simp⟩; clear hown hg)
          clear hz
          generalize hg2 : wb.heap.size = g2 at hDT ⊢
          go_loopw [124] (fun s wr => ∃ (i : Nat) (D : List Bool), s = .int .i64 i ∧ i ≤ m ∧ Hid (ATB wb wr g2 m D) ∧ Hid (∀ k, k < m → (D.getD k false = true ↔ ∃ j, j < i ∧ Rc N F j ∧ k ∈ nd N j))) (fun s _ => m - (RowKit.intOf s).toNat)
          case atStart => exact ⟨0, _, rfl, by omega, hDT, Lib.hid (fun k hk => by
            have : (List.replicate m false).getD k false = false := by rw [List.getD_eq_getElem?_getD, List.getElem?_replicate]; split <;> rfl
            rw [this]; simp)⟩
          case round =>
            clear hDT
            obtain ⟨i, D, rfl, him, hD, hDs⟩ := hrel
            have hB5 := Lib.hid (nextw hA.out.low hD.out.low)
            by_cases hilt : i < m
            · obtain ⟨b, off, rfl, hb, hcell⟩ := HN3.out.at (by omega)
              obtain ⟨ai, ci, c3, q1, q2, hrow⟩ := hcell i hilt
              have c3r := stepc hB5.out hb c3
              have hmj : (N.getD i []).length ≤ 10 := HR.out i
              have hii : (i : Int) < m := by omega
              have hndl := nd_len N i
              have hrow := Lib.hid hrow
              generalize hlen : (N.getD i []).length = len at *
              clear hcell c3
              go_wp2
              go_loopw [131] (fun s wq => ∃ (q : Nat) (D : List Bool), s = .int .i64 q ∧ q ≤ len ∧ Hid (ATB wb wq g2 m D) ∧ Hid (∀ k, k < m → (D.getD k false = true ↔ (∃ j, j < i ∧ Rc N F j ∧ k ∈ nd N j) ∨ (Rc N F i ∧ k ∈ (nd N i).take q)))) (fun s _ => len - (RowKit.intOf s).toNat)
              case atStart => exact ⟨0, D, rfl, by omega, hD, Lib.hid (fun k hk => by rw [hDs.out k hk]; simp)⟩
              case round =>
                clear hD hDs hB5
                obtain ⟨q, D, rfl, hq, hD, hDs⟩ := hrel
                have hB5 := Lib.hid (nextw hA.out.low hD.out.low)
                by_cases hql : q < len
                · obtain ⟨rb, roff, rfl, hrb, hrc⟩ := hrow.out.at (by omega)
                  have cr := stepc hB5.out hrb (hrc q hql)
                  obtain ⟨ey, hyn⟩ := may_get HM.out (i := i) (p := q) (by omega)
                  have hpn : q < (nd N i).length := by omega
                  have e1 : (nd N i).getD q 0 = (nd N i)[q] := getN_at hpn
                  have htk : (nd N i).take (q + 1) = (nd N i).take q ++ [(nd N i)[q]] := List.take_succ_eq_append_getElem hpn
                  have hmem := List.getElem_mem hpn
                  rw [ey, e1] at cr
                  rw [e1] at hyn
                  generalize (nd N i)[q] = k at *
                  rw [HL.out] at hyn
                  obtain ⟨ib, io, rfl, hib, hic⟩ := hS3.out.at (by omega)
                  have ci := stepc hB5.out hib (hic i hilt)
                  have hri := rcL_get (N := N) (F := F) (i := i) (by rw [HL.out]; exact hilt)
                  have hqi : (q : Int) < len := by omega
                  have hki : (k : Int) < m := by omega
                  rcases (show (rcL N F).getD i false = true ∨ (rcL N F).getD i false = false by cases (rcL N F).getD i false <;> simp) with h1 | h1
                  · rw [h1] at ci
                    have hRi := hri.1 h1
                    have ck := hic k hyn
                    rw [(rcL_get (by rw [HL.out]; exact hyn)).2 (.step hRi hmem)] at ck
                    have hset := Lib.hid (hD.out.set k true)
                    have hB6 := Lib.hid (nextw hA.out.low hset.out.low)
                    have ck2 := stepc hB6.out hib ck
                    obtain ⟨cg, fg⟩ := hD.out.cell hyn
                    have hDs2 : Hid (∀ y, y < m → ((D.set k true).getD y false = true ↔ (∃ j, j < i ∧ Rc N F j ∧ y ∈ nd N j) ∨ (Rc N F i ∧ y ∈ (nd N i).take (q + 1)))) := Lib.hid (fun y hy => by
                      rw [getDb_set, hD.out.len, htk]
                      by_cases e : k = y
                      · subst e
                        rw [if_pos ⟨rfl, hyn⟩]
                        exact ⟨fun _ => .inr ⟨hRi, by simp⟩, fun _ => rfl⟩
                      · rw [if_neg (fun h => e h.1), hDs.out y hy]
                        constructor
                        · rintro (h | ⟨h, h2⟩)
                          · exact .inl h
                          · exact .inr ⟨h, by simp [h2]⟩
                        · rintro (h | ⟨h, h2⟩)
                          · exact .inl h
                          · rcases List.mem_append.1 h2 with h2 | h2
                            · exact .inr ⟨h, h2⟩
                            · simp at h2; exact absurd h2.symm e)
                    clear hrc ey e1 htk hmem hic h1 hri hD hDs hB5 hB6 hRi ck
                    go_wp2
                    exact ⟨⟨q + 1, _, by go_num, by omega, hset, hDs2⟩, by simp [RowKit.intOf]; omega⟩
                  · rw [h1] at ci
                    have hRi : ¬ Rc N F i := fun h => by have := hri.2 h; rw [h1] at this; cases this
                    have hDs2 : Hid (∀ y, y < m → (D.getD y false = true ↔ (∃ j, j < i ∧ Rc N F j ∧ y ∈ nd N j) ∨ (Rc N F i ∧ y ∈ (nd N i).take (q + 1)))) := Lib.hid (fun y hy => by
                      rw [hDs.out y hy]
                      exact ⟨fun h => h.elim .inl (fun h => absurd h.1 hRi), fun h => h.elim .inl (fun h => absurd h.1 hRi)⟩)
                    clear hrc ey e1 htk hmem hic h1 hri hDs hB5 hRi
                    go_wp2
                    exact ⟨⟨q + 1, D, by go_num, by omega, hD, hDs2⟩, by simp [RowKit.intOf]; omega⟩
                · obtain rfl : q = len := by omega
                  have hDs2 : Hid (∀ k, k < m → (D.getD k false = true ↔ ∃ j, j < i + 1 ∧ Rc N F j ∧ k ∈ nd N j)) := Lib.hid (fun k hk => by
                    rw [hDs.out k hk, ← hndl, List.take_length]
                    constructor
                    · rintro (⟨j, h1, h2, h3⟩ | ⟨h2, h3⟩)
                      · exact ⟨j, by omega, h2, h3⟩
                      · exact ⟨i, by omega, h2, h3⟩
                    · rintro ⟨j, h1, h2, h3⟩
                      by_cases e : j = i
                      · subst e; exact .inr ⟨h2, h3⟩
                      · exact .inl ⟨j, by omega, h2, h3⟩)
                  clear hDs hB5 hrow
                  go_wp2
                  exact ⟨⟨i + 1, D, by go_num, by omega, hD, hDs2⟩, by simp [RowKit.intOf]; omega⟩
            · obtain rfl : i = m := by omega
              have hA5 := Lib.hid (hA.out.below hD.out.low)
              have hD1 := hD
              clear hB5 hA hD
              obtain ⟨wc, rfl⟩ : ∃ wc : World, wc = wr := ⟨_, rfl⟩
              go_wp2
              go_loopw [151] (fun s wr => ∃ x : Nat, s = .int .i64 x ∧ x ≤ i ∧ Hid (Below wc.heap.size wc wr)) (fun s _ => i - (RowKit.intOf s).toNat)
              case atStart => exact ⟨0, rfl, by omega, Lib.hid (Below.refl _ _)⟩
              case round =>
                obtain ⟨x, rfl, hxi, hC⟩ := hrel
                by_cases hx : x < i
                · have hAx := Lib.hid (hA5.out.below hC.out)
                  have hDx := Lib.hid (hD1.out.below hC.out)
                  obtain ⟨ib, io, rfl, hib, hic⟩ := hS3.out.at (by omega)
                  have c1 := stepc hAx.out.low hib (hic x hx)
                  obtain ⟨c2, -⟩ := hAx.out.cell hx
                  obtain ⟨c4, -⟩ := hDx.out.cell hx
                  have hct := Lib.hid (fun (W : World) (hW : Below wr.heap.size wr W) => contains_any (hT3.out.step (nextw hAx.out.low hW)) (by omega) tc (x : Int))
                  have hBn := Lib.hid (fun k => below_draws wr k)
                  have hBm := Lib.hid (fun k => nextw hC.out (below_draws wr k))
                  have hri := rcL_get (N := N) (F := F) (i := x) (by rw [HL.out]; exact hx)
                  have hGx := hGF.out x hx
                  have hDx2 := hDs.out x hx
                  have hxm : (x : Int) < i := by omega
                  obtain ⟨b1, e1⟩ : ∃ b, (rcL N F).getD x false = b := ⟨_, rfl⟩
                  have e2 : G.getD x false = b1 := by
                    cases b1
                    · cases h : G.getD x false
                      · rfl
                      · exact absurd (hri.2 (hGx.1 h)) (by rw [e1]; decide)
                    · exact hGx.2 (hri.1 e1)
                  obtain ⟨b3, e3⟩ : ∃ b, D.getD x false = b := ⟨_, rfl⟩
                  obtain ⟨b4, e4⟩ : ∃ b, decide ((x : Int) ∈ F) = b := ⟨_, rfl⟩
                  have hfin : (b1 && !b3 && !b4) = false := by
                    cases b1
                    · rfl
                    · rcases rc_why (hri.1 e1) with h | ⟨k, h, hk⟩
                      · have : b4 = true := by rw [← e4]; exact decide_eq_true h
                        rw [this]; simp
                      · have hkm : k < i := by
                          by_cases hkl : k < i
                          · exact hkl
                          · have h0 : nd N k = [] := by unfold nd; rw [List.getD_eq_getElem?_getD, List.getElem?_eq_none (by rw [HL.out]; omega)]; rfl
                            rw [h0] at hk; cases hk
                        have : b3 = true := by rw [← e3]; exact hDx2.2 ⟨k, hkm, h, hk⟩
                        rw [this]; simp
                  rw [e1] at c1
                  rw [e2] at c2
                  rw [e3] at c4
                  rw [e4] at hct
                  clear hic hri hGx hDx2 e1 e2 e3 e4 hAx hDx
                  cases b1 <;> cases b3 <;> cases b4 <;> (first | (exfalso; revert hfin; decide) | skip)
                  all_goals
                    clear hfin
                    go_wp2
                    go_quiet (first
                      | (go_at_call 27; with_reducible exact Calls.quiet_of_same ((hct.out _ (hBn.out _)).mono (fun _ _ h => ⟨h.1, h.2⟩))))
                    go_wp2
                    exact ⟨⟨x + 1, by go_num, by omega, Lib.hid (hBm.out _)⟩, by simp [RowKit.intOf]; omega⟩
                · obtain rfl : x = i := by omega
                  go_wp2
                  go_ret
                  exact ⟨ret_bool (by simp), nextw hB1.out (nextw hB3.out (nextw hA5.out.low hC.out))⟩
end Go.Proofs.Ytocfchgkfaogdaa
