/-
  The document's own graph: Not, Fold, gate, Raw, and.
-/
import Derived.Test.YtmljpbbnllfgbaaRfA
namespace Go.Proofs.Ytmljpbbnllfgbaa
open Go.RowKit Go.Maps Num
set_option maxRecDepth 100000

theorem rnot_any (l : Int) (h : IsLit l) (w : World) :
    Calls Try.prog 59 #[.int .u32 l] w fun e w' => e = .returned (.int .u32 (notV l)) ∧ w = w' := by
  obtain ⟨h0, h1⟩ := h
  by_cases e : l % 2 = 0
  · have e0 : (l % 2 == 0) = true := by simpa using e
    have hx := Lib.hid (show (l + 1) % 4294967296 = notV l by unfold notV; rw [if_pos e0]; omega)
    clear e
    go_enter Try.func59, Try.ntmps59
    go_wp2
    go_ret
    exact ⟨ret_int hx.out, rfl⟩
  · have e0 : (l % 2 == 0) = false := by simpa using e
    have hx := Lib.hid (show (l - 1) % 4294967296 = notV l by unfold notV; rw [if_neg (by simpa using e)]; omega)
    clear e
    go_enter Try.func59, Try.ntmps59
    go_wp2
    go_ret
    exact ⟨ret_int hx.out, rfl⟩
theorem rfold_any (a b : Int) (ha : IsLit a) (hb : IsLit b) (w : World) :
    Calls Try.prog 74 #[.int .u32 a, .int .u32 b] w fun e w' => e = .returned (.tuple #[.int .u32 (foldV a b), .bool (foldB a b)]) ∧ w = w' := by
  by_cases h0 : a = 0
  · subst h0
    have hv := Lib.hid (fold_0 (a := 0) (b := b) (.inl rfl))
    go_enter Try.func74, Try.ntmps74
    go_wp2_with (go_at_call 59; refine (rnot_any _ hb _).mono ?_; rintro e w2 ⟨rfl, rfl⟩)
    go_ret2
    exact ⟨ret_intb hv.out.1.symm hv.out.2.symm, rfl⟩
  by_cases h1 : b = 0
  · subst h1
    have hv := Lib.hid (fold_0 (a := a) (b := 0) (.inr (.inl rfl)))
    have g0 := beqf h0
    clear h0
    go_enter Try.func74, Try.ntmps74
    go_wp2_with (go_at_call 59; refine (rnot_any _ hb _).mono ?_; rintro e w2 ⟨rfl, rfl⟩)
    go_ret2
    exact ⟨ret_intb hv.out.1.symm hv.out.2.symm, rfl⟩
  by_cases h2 : a = notV b
  · have hv := Lib.hid (fold_0 (a := a) (b := b) (.inr (.inr h2)))
    have g0 := beqf h0
    have g1 := beqf h1
    have g2 := beqt h2
    clear h0 h1 h2
    go_enter Try.func74, Try.ntmps74
    go_wp2_with (go_at_call 59; refine (rnot_any _ hb _).mono ?_; rintro e w2 ⟨rfl, rfl⟩)
    go_ret2
    exact ⟨ret_intb hv.out.1.symm hv.out.2.symm, rfl⟩
  by_cases h3 : a = 1
  · subst h3
    have hv := Lib.hid (fold_1 h1 h2)
    have g1 := beqf h1
    have g2 := beqf h2
    clear h0 h1 h2
    go_enter Try.func74, Try.ntmps74
    go_wp2_with (go_at_call 59; refine (rnot_any _ hb _).mono ?_; rintro e w2 ⟨rfl, rfl⟩)
    go_ret2
    exact ⟨ret_intb hv.out.1.symm hv.out.2.symm, rfl⟩
  by_cases h4 : b = 1
  · subst h4
    have hv := Lib.hid (fold_2 h0 h2 h3)
    have g0 := beqf h0
    have g2 := beqf h2
    have g3 := beqf h3
    clear h0 h1 h2 h3
    go_enter Try.func74, Try.ntmps74
    go_wp2_with (go_at_call 59; refine (rnot_any _ hb _).mono ?_; rintro e w2 ⟨rfl, rfl⟩)
    go_ret2
    exact ⟨ret_intb hv.out.1.symm hv.out.2.symm, rfl⟩
  by_cases h5 : a = b
  · subst h5
    have hv := Lib.hid (fold_3 h0 h3)
    have g0 := beqf h0
    have g2 := beqf h2
    have g3 := beqf h3
    clear h0 h1 h2 h3 h4
    go_enter Try.func74, Try.ntmps74
    go_wp2_with (go_at_call 59; refine (rnot_any _ hb _).mono ?_; rintro e w2 ⟨rfl, rfl⟩)
    go_ret2
    exact ⟨ret_intb hv.out.1.symm hv.out.2.symm, rfl⟩
  · have hv := Lib.hid (fold_4 h0 h1 h2 h3 h4 h5)
    have g0 := beqf h0
    have g1 := beqf h1
    have g2 := beqf h2
    have g3 := beqf h3
    have g4 := beqf h4
    have g5 := beqf h5
    clear h0 h1 h2 h3 h4 h5
    go_enter Try.func74, Try.ntmps74
    go_wp2_with (go_at_call 59; refine (rnot_any _ hb _).mono ?_; rintro e w2 ⟨rfl, rfl⟩)
    go_ret2
    exact ⟨ret_intb hv.out.1.symm hv.out.2.symm, rfl⟩

theorem rgate_any {w0 w : World} {B g c : Nat} {F H : Bool} {ns : List Nd} (h : Rf w0 w B g c F H ns) (hm : ns.length ≤ 200000) (a b : Int) :
    Calls Try.prog 66 #[.pointer (some ⟨B, 0, none⟩), .int .u32 a, .int .u32 b] w fun e w' => e = .returned (.tuple #[.int .u32 (2 * (ns.length : Int)), .int .i64 0]) ∧ ∃ g1 c1, Rf w0 w' B g1 c1 F H (ns ++ [⟨true, hiV a b, loV a b⟩]) ∧ Kept (RK w) w w' := by
  have hga := Lib.hid (rgates_any h hm)
  have hne2 : some B ≠ Value.ownBlock (.slice (some ⟨g, 0, none⟩) ns.length c) := by have := h.ne; simpa [Value.ownBlock] using this
  have hp := h.pos
  have HF0 := Lib.hid h
  obtain ⟨i0, hi, hz0, hz1, hz2⟩ := info_parts info_rnode
  generalize hk : ns.length = k at *
  have hk := Lib.hid hk
  clear h
  by_cases hab : a < b
  · have e1 : hiV a b = b := if_pos hab
    have e2 : loV a b = a := if_pos hab
    have g1 : decide (a < b) = true := by simp [hab]
    rw [e1, e2]
    clear e1 e2
    · go_enter Try.func66, Try.ntmps66
      go_wp2_with (first | (go_at_call 77; (with_reducible refine hga.out.mono ?_); rintro e w2 ⟨⟨m, rfl, hm2⟩, hB⟩; have HF2 := Lib.hid (HF0.out.step hB); have HR2 := Lib.hid HF2.out.row; rw [hk.out] at HR2; obtain ⟨-, -, c2, f2⟩ := HF2.out.cells; rw [hk.out] at c2; have f2 := f2 2; have hlt := HF2.out.blt; have hglt := HF2.out.glt; have hs0 := HF2.out.below.size; have g0 : decide ((262144 : Int) ≤ m) = false := by simp; omega) | (at_builtin; refine wpList_append_lies _ rfl _ _ 70 rfl w0.heap.size 103 i0 (.agg #[.bool false, .int .u32 0, .int .u32 0]) 3 12 Try.underlying70 hi hz0 hz1 hz2 rfl (by decide) (.slice (some ⟨g, 0, none⟩) k c) k _ rfl (HR2.out.alloc _) ⟨w2.heap.size, 0, none⟩ 1 1 [.bool false, .int .u32 b, .int .u32 a] rfl rfl (news3 (by go_simp) (by go_simp) (by go_simp)) (by simp [Value.oneCell']) (by decide) (by unfold maxLen; omega) (by omega) (by simp; omega) _ rfl ?_; intro g1 cap1 w1 hown1 hgrow1 hat1 hlt1; obtain ⟨x0, x1⟩ := grow_box hgrow1 (b := B) (o := 2) (v := .slice (some ⟨g, 0, none⟩) k c) (by go_simp) (by go_simp) hne2))
      go_ret2
      obtain ⟨r1, r2⟩ := rf_next HF2.out ((Below.refl _ _).alloc (Nat.le_refl _) _) ⟨true, b, a⟩ (by rw [hk.out]; exact hown1) hgrow1 hat1
      rw [hk.out] at r1 r2
      exact ⟨by congr 4, _, _, r1, RK.trans (RK.of_below hB) r2⟩
  · have e1 : hiV a b = a := if_neg hab
    have e2 : loV a b = b := if_neg hab
    have g1 : decide (a < b) = false := by simp [hab]
    rw [e1, e2]
    clear e1 e2
    · go_enter Try.func66, Try.ntmps66
      go_wp2_with (first | (go_at_call 77; (with_reducible refine hga.out.mono ?_); rintro e w2 ⟨⟨m, rfl, hm2⟩, hB⟩; have HF2 := Lib.hid (HF0.out.step hB); have HR2 := Lib.hid HF2.out.row; rw [hk.out] at HR2; obtain ⟨-, -, c2, f2⟩ := HF2.out.cells; rw [hk.out] at c2; have f2 := f2 2; have hlt := HF2.out.blt; have hglt := HF2.out.glt; have hs0 := HF2.out.below.size; have g0 : decide ((262144 : Int) ≤ m) = false := by simp; omega) | (at_builtin; refine wpList_append_lies _ rfl _ _ 70 rfl w0.heap.size 103 i0 (.agg #[.bool false, .int .u32 0, .int .u32 0]) 3 12 Try.underlying70 hi hz0 hz1 hz2 rfl (by decide) (.slice (some ⟨g, 0, none⟩) k c) k _ rfl (HR2.out.alloc _) ⟨w2.heap.size, 0, none⟩ 1 1 [.bool false, .int .u32 a, .int .u32 b] rfl rfl (news3 (by go_simp) (by go_simp) (by go_simp)) (by simp [Value.oneCell']) (by decide) (by unfold maxLen; omega) (by omega) (by simp; omega) _ rfl ?_; intro g1 cap1 w1 hown1 hgrow1 hat1 hlt1; obtain ⟨x0, x1⟩ := grow_box hgrow1 (b := B) (o := 2) (v := .slice (some ⟨g, 0, none⟩) k c) (by go_simp) (by go_simp) hne2))
      go_ret2
      obtain ⟨r1, r2⟩ := rf_next HF2.out ((Below.refl _ _).alloc (Nat.le_refl _) _) ⟨true, a, b⟩ (by rw [hk.out]; exact hown1) hgrow1 hat1
      rw [hk.out] at r1 r2
      exact ⟨by congr 4, _, _, r1, RK.trans (RK.of_below hB) r2⟩

theorem rthere_any {w0 w : World} {B g c : Nat} {F H : Bool} {ns : List Nd} (h : Rf w0 w B g c F H ns) (hm : ns.length ≤ 200000) {a : Option Addr} {n cap : Nat} {l : List Int} (hs : Row .u32 w a n l) (hl : ∀ x ∈ l, IsLit x ∧ x / 2 < ns.length) :
    Calls Try.prog 65 #[.pointer (some ⟨B, 0, none⟩), .slice a n cap] w fun e w' => e = .returned (.bool true) ∧ Below w.heap.size w w' := by
  obtain ⟨-, -, c2, -⟩ := h.cells
  have hblt := h.blt
  have HS := Lib.hid hs
  have HL := Lib.hid hl
  have hle := hs.le
  generalize hk : ns.length = k at *
  clear h hk hs hl
  go_enter Try.func65, Try.ntmps65
  go_wp2
  go_loopw [5] (fun s wr => ∃ j : Nat, j ≤ n ∧ s = .int .i64 j ∧ Below w.heap.size w wr) (fun s _ => n - (intOf s).toNat)
  case atStart => exact ⟨0, Nat.zero_le _, rfl, Below.refl _ _⟩
  case round =>
    obtain ⟨j, hj, rfl, hB⟩ := hrel
    by_cases hlt : j < n
    · obtain ⟨b, off, rfl, hb, hcell⟩ := HS.out.at (by omega)
      have hcj := stepc hB hb (hcell j hlt)
      have c2r := stepc hB hblt c2
      have hx := HL.out (l.getD j 0) (by have := HS.out.len; simp [List.getD, show j < l.length by omega])
      generalize l.getD j 0 = x at *
      have hx0 := hx.1.1
      have hx1 := hx.1.2
      have hxt : x.tdiv 2 = x / 2 := by rw [Int.tdiv_eq_ediv_of_nonneg hx0]
      have hw1 : IntKind.u32.wrap (x / 2) = x / 2 := by rw [w32]; omega
      have hw2 : IntKind.i64.wrap (x / 2) = x / 2 := IntWalk.i64_in _ (by omega)
      have hge : decide (x / 2 ≥ (k : Int)) = false := by simp; omega
      have hge2 : decide ((k : Int) ≤ x / 2) = false := by simp; omega
      have hBr := Lib.hid hB
      clear hcell hx hB
      go_wp2
      go_quiet (fail)
      go_wp2
      go_roundw
      case rel => exact ⟨j + 1, by omega, by go_num, nextw hBr.out (below_draws _ _)⟩
      case measure => simp [intOf]; omega
    · obtain rfl : j = n := by omega
      go_wp2
      go_ret
      exact ⟨rfl, hB⟩

theorem rraw_any {w0 w : World} {B g c : Nat} {G : Gr} (h : Rf w0 w B g c G.fold G.hash G.nodes) (hm : G.nodes.length ≤ 200000) {a b : Int} (ha : There G a) (hb : There G b) :
    Calls Try.prog 35 #[.pointer (some ⟨B, 0, none⟩), .int .u32 a, .int .u32 b] w fun e w' => (∃ v, e = .returned v) ∧ ∃ g1 c1, Rf w0 w' B g1 c1 G.fold G.hash (gateG G a b).1.nodes ∧ Kept (RK w) w w' := by
  have hb1 : Below w.heap.size w (w.alloc (.cells #[.int .u32 a, .int .u32 b] 39)) := (Below.refl _ _).alloc (Nat.le_refl _) _
  have hth := Lib.hid (rthere_any (h.step hb1) hm (cap := 2) (row2 w a b 39) (by intro x hx; simp at hx; rcases hx with rfl | rfl <;> assumption))
  have hg := Lib.hid (fun w2 (hb2 : Below w.heap.size w w2) => rgate_any (h.step hb2) hm a b)
  have hB1 := Lib.hid hb1
  clear h hb1 ha hb
  go_enter Try.func35, Try.ntmps35
  go_wp2_with (first
    | (go_at_call 65; (with_reducible refine hth.out.mono ?_); rintro e w2 ⟨rfl, hB2⟩; have hBB := Lib.hid (nextw hB1.out hB2); have hg2 := Lib.hid (hg.out w2 hBB.out))
    | (go_at_call 66; (with_reducible refine hg2.out.mono ?_); rintro e w3 ⟨rfl, g1, c1, hR, hK⟩))
  go_ret2
  exact ⟨⟨_, rfl⟩, g1, c1, hR, RK.trans (RK.of_below hBB.out) hK⟩

theorem hiV_hl (a b : Int) : hiV (hiV a b) (loV a b) = hiV a b ∧ loV (hiV a b) (loV a b) = loV a b := by
  by_cases h : a < b
  · simp [hiV, loV, h]; omega
  · simp [hiV, loV, h]
theorem isPair_no {x y : Int} {n : Nd} (h : isPair x y n = false) : n.gate = false ∨ ¬ n.a = x ∨ ¬ n.b = y := by
  unfold isPair at h
  cases hg : n.gate <;> simp_all
  by_cases e : n.a = x
  · exact .inr (h e)
  · exact .inl e
theorem find_no {ns : List Nd} {x y : Int} {t : Nat} (h : findG ns x y = some t ∨ (findG ns x y = none ∧ t = ns.length)) : ∀ j, j < t → (ns.getD j ⟨false, 0, 0⟩).gate = false ∨ ¬ (ns.getD j ⟨false, 0, 0⟩).a = x ∨ ¬ (ns.getD j ⟨false, 0, 0⟩).b = y := by
  intro j hj
  apply isPair_no
  unfold findG at h
  rcases h with h | ⟨h, rfl⟩
  · obtain ⟨hi, -, hn⟩ := List.findIdx?_eq_some_iff_getElem.1 h
    have := hn j hj
    have hl : j < ns.length := by omega
    simpa [List.getD, hl] using this
  · rw [List.findIdx?_eq_none_iff] at h
    have := h ns[j] (by simp)
    simpa [List.getD, hj] using this

set_option maxHeartbeats 1000000 in
theorem rand_any {w0 w : World} {B g c : Nat} {G : Gr} (h : Rf w0 w B g c G.fold G.hash G.nodes) (hW : Wf G) (hm : G.nodes.length ≤ 200000) {a b : Int} (ha : IsLit a) (hb : IsLit b) :
    Calls Try.prog 58 #[.pointer (some ⟨B, 0, none⟩), .int .u32 a, .int .u32 b] w fun e w' => e = .returned (.tuple #[.int .u32 (andG G a b).2, .int .i64 0]) ∧ ∃ g1 c1, Rf w0 w' B g1 c1 G.fold G.hash (andG G a b).1.nodes ∧ Kept (RK w) w w' := by
  have hfo := Lib.hid (fun w => rfold_any a b ha hb w)
  obtain ⟨c0, c1, c2, -⟩ := h.cells
  have HR := Lib.hid h
  by_cases hf : (G.fold && foldB a b) = true
  · rw [show andG G a b = (G, foldV a b) from if_pos hf]
    rw [Bool.and_eq_true] at hf
    rw [hf.1] at c0
    rw [hf.2] at hfo
    generalize foldV a b = v at *
    have HF := Lib.hid hf
    clear h hW hf
    go_enter Try.func58, Try.ntmps58
    go_wp2_with (go_at_call 74; (with_reducible refine (hfo.out _).mono ?_); rintro e w2 ⟨rfl, rfl⟩)
    go_ret2
    exact ⟨rfl, g, c, HR.out, RK.refl _⟩
  · have hG : Hid (andG G a b = match seenG G a b with | some i => (G, 2 * (i : Int)) | none => gateG G a b) := Lib.hid (if_neg hf)
    have hlen := hm
    have hgt := Lib.hid (rgate_any h hm (hiV a b) (loV a b))
    rw [(hiV_hl a b).1, (hiV_hl a b).2] at hgt
    have hor : (a < b ∧ hiV a b = b ∧ loV a b = a) ∨ (¬ a < b ∧ hiV a b = a ∧ loV a b = b) := by unfold hiV loV; by_cases e : a < b <;> simp [e]
    have hnode := Lib.hid (fun i (h0 : 0 < i) (hi : i < G.nodes.length) => h.node h0 hi)
    have HW := Lib.hid hW
    obtain ⟨fo, hfo2⟩ : ∃ fo, fo = G.fold := ⟨_, rfl⟩
    obtain ⟨fb, hfb2⟩ : ∃ fb, fb = foldB a b := ⟨_, rfl⟩
    rw [← hfo2, ← hfb2] at hf
    rw [← hfo2] at c0
    rw [← hfb2] at hfo
    clear hfo2 hfb2
    generalize foldV a b = v at *
    have hhc : G.hash = false ∨ G.hash = true := by cases G.hash <;> simp
    rcases hhc with hh | hh
    · skip
      have hs : Hid ((andG G a b).2 = 2 * (G.nodes.length : Int) ∧ (andG G a b).1.nodes = G.nodes ++ [⟨true, hiV a b, loV a b⟩]) := Lib.hid (by rw [hG.out]; unfold seenG; rw [hh]; exact ⟨rfl, rfl⟩)
      rw [hh] at c1
      have hh2 := Lib.hid hh
      clear hG hh h hnode hW
      have hfq : (fo = false) ∨ (fo = true ∧ fb = false) := by cases fo <;> cases fb <;> simp at hf ⊢
      clear hf
      generalize hX : hiV a b = X at *
      generalize hY : loV a b = Y at *
      clear hX hY
      rcases hfq with rfl | ⟨rfl, rfl⟩
      · go_enter Try.func58, Try.ntmps58
        go_upto_if 27 with (go_at_call 74; (with_reducible refine (hfo.out _).mono ?_); rintro e w2 ⟨rfl, rfl⟩)
        go_cut [1, 2] (fun s t wx => s = .int .u32 X ∧ t = .int .u32 Y ∧ w = wx)
        case first => (rcases hor with ⟨h1, rfl, rfl⟩ | ⟨h1, rfl, rfl⟩ <;> go_wp2 <;> go_meet <;> exact ⟨rfl, rfl, rfl⟩)
        obtain ⟨rfl, rfl, rfl⟩ := hcut
        clear hfo hor
        go_wp2
        go_loopw [10] (fun s wr => s = .int .i64 1 ∧ Hid (w = wr)) (fun _ _ => 0)
        case atStart => exact ⟨rfl, Lib.hid rfl⟩
        case round =>
          obtain ⟨rfl, hwr⟩ := hrel
          have hwr2 := hwr.out
          subst hwr2
          clear hwr
          go_wp2_with (go_at_call 66; (with_reducible refine hgt.out.mono ?_); rintro e w3 ⟨rfl, g3, c3, hR3, hK3⟩)
          go_ret2
          exact ⟨by rw [hs.out.1]; rfl, g3, c3, by rw [hs.out.2]; exact hR3, hK3⟩
      · go_enter Try.func58, Try.ntmps58
        go_upto_if 27 with (go_at_call 74; (with_reducible refine (hfo.out _).mono ?_); rintro e w2 ⟨rfl, rfl⟩)
        go_cut [1, 2] (fun s t wx => s = .int .u32 X ∧ t = .int .u32 Y ∧ w = wx)
        case first => (rcases hor with ⟨h1, rfl, rfl⟩ | ⟨h1, rfl, rfl⟩ <;> go_wp2 <;> go_meet <;> exact ⟨rfl, rfl, rfl⟩)
        obtain ⟨rfl, rfl, rfl⟩ := hcut
        clear hfo hor
        go_wp2
        go_loopw [10] (fun s wr => s = .int .i64 1 ∧ Hid (w = wr)) (fun _ _ => 0)
        case atStart => exact ⟨rfl, Lib.hid rfl⟩
        case round =>
          obtain ⟨rfl, hwr⟩ := hrel
          have hwr2 := hwr.out
          subst hwr2
          clear hwr
          go_wp2_with (go_at_call 66; (with_reducible refine hgt.out.mono ?_); rintro e w3 ⟨rfl, g3, c3, hR3, hK3⟩)
          go_ret2
          exact ⟨by rw [hs.out.1]; rfl, g3, c3, by rw [hs.out.2]; exact hR3, hK3⟩
    · have hG2 : Hid (andG G a b = match findG G.nodes (hiV a b) (loV a b) with | some i => (G, 2 * (i : Int)) | none => gateG G a b) := Lib.hid (by rw [hG.out]; unfold seenG; rw [if_pos hh])
      rw [hh] at c1
      have hh2 := Lib.hid hh
      cases hfi : findG G.nodes (hiV a b) (loV a b) with
      | some t =>
        have hs : Hid ((andG G a b).2 = 2 * (t : Int) ∧ (andG G a b).1.nodes = G.nodes) := Lib.hid (by rw [hG2.out, hfi]; exact ⟨rfl, rfl⟩)
        have hno := Lib.hid (find_no (.inl hfi))
        obtain ⟨nt, ht, hg1, ha1, hb1⟩ := findG_some hfi
        have htl := (List.getElem?_eq_some_iff.1 ht).1
        have ht0 : 0 < t := by
          rcases Nat.eq_zero_or_pos t with e | e
          · subst e; rw [hW.zero] at ht; simp at ht; subst ht; cases hg1
          · exact e
        obtain ⟨d0, d1, d2⟩ := h.node ht0 htl
        rw [show G.nodes.getD t ⟨false, 0, 0⟩ = nt by simp [List.getD, ht], hg1, ha1, hb1] at *
        clear hG hG2 hfi hh h hW ht hg1 ha1 hb1
        have hfq : (fo = false) ∨ (fo = true ∧ fb = false) := by cases fo <;> cases fb <;> simp at hf ⊢
        clear hf
        generalize hX : hiV a b = X at *
        generalize hY : loV a b = Y at *
        clear hX hY
        rcases hfq with rfl | ⟨rfl, rfl⟩
        · go_enter Try.func58, Try.ntmps58
          go_upto_if 27 with (go_at_call 74; (with_reducible refine (hfo.out _).mono ?_); rintro e w2 ⟨rfl, rfl⟩)
          go_cut [1, 2] (fun s t wx => s = .int .u32 X ∧ t = .int .u32 Y ∧ w = wx)
          case first => (rcases hor with ⟨h1, rfl, rfl⟩ | ⟨h1, rfl, rfl⟩ <;> go_wp2 <;> go_meet <;> exact ⟨rfl, rfl, rfl⟩)
          obtain ⟨rfl, rfl, rfl⟩ := hcut
          clear hfo hor
          go_wp2
          go_loopw [10] (fun s wr => ∃ j : Nat, s = .int .i64 j ∧ 0 < j ∧ j ≤ t ∧ Hid (w = wr)) (fun s _ => t - (intOf s).toNat)
          case atStart => exact ⟨1, rfl, by omega, by omega, Lib.hid rfl⟩
          case round =>
            obtain ⟨j, rfl, hj0, hjt, hwr⟩ := hrel
            have hwr2 := hwr.out
            subst hwr2
            clear hwr
            by_cases hlt : j < t
            · have hjk : j < G.nodes.length := by omega
              obtain ⟨n0, n1, n2⟩ := hnode.out j hj0 hjk
              have hnj := hno.out j hlt
              generalize (G.nodes.getD j ⟨false, 0, 0⟩).gate = q at *
              generalize (G.nodes.getD j ⟨false, 0, 0⟩).a = na at *
              generalize (G.nodes.getD j ⟨false, 0, 0⟩).b = nb at *
              rcases hnj with rfl | e | e
              · go_wp2
                go_roundw
                case rel => exact ⟨j + 1, by go_num, by omega, by omega, Lib.hid trivial⟩
                case measure => simp [intOf]; omega
              · have e1 := beqf e
                cases q
                · go_wp2
                  go_roundw
                  case rel => exact ⟨j + 1, by go_num, by omega, by omega, Lib.hid trivial⟩
                  case measure => simp [intOf]; omega
                · go_wp2
                  go_roundw
                  case rel => exact ⟨j + 1, by go_num, by omega, by omega, Lib.hid trivial⟩
                  case measure => simp [intOf]; omega
              · have e1 := beqf e
                cases q
                · go_wp2
                  go_roundw
                  case rel => exact ⟨j + 1, by go_num, by omega, by omega, Lib.hid trivial⟩
                  case measure => simp [intOf]; omega
                · by_cases e2 : na = X
                  · subst e2
                    go_wp2
                    go_roundw
                    case rel => exact ⟨j + 1, by go_num, by omega, by omega, Lib.hid trivial⟩
                    case measure => simp [intOf]; omega
                  · have e3 := beqf e2
                    go_wp2
                    go_roundw
                    case rel => exact ⟨j + 1, by go_num, by omega, by omega, Lib.hid trivial⟩
                    case measure => simp [intOf]; omega
            · obtain rfl : j = t := by omega
              go_wp2
              go_ret2
              exact ⟨by rw [hs.out.1]; rfl, g, c, by rw [hs.out.2]; exact HR.out, RK.refl _⟩
        · go_enter Try.func58, Try.ntmps58
          go_upto_if 27 with (go_at_call 74; (with_reducible refine (hfo.out _).mono ?_); rintro e w2 ⟨rfl, rfl⟩)
          go_cut [1, 2] (fun s t wx => s = .int .u32 X ∧ t = .int .u32 Y ∧ w = wx)
          case first => (rcases hor with ⟨h1, rfl, rfl⟩ | ⟨h1, rfl, rfl⟩ <;> go_wp2 <;> go_meet <;> exact ⟨rfl, rfl, rfl⟩)
          obtain ⟨rfl, rfl, rfl⟩ := hcut
          clear hfo hor
          go_wp2
          go_loopw [10] (fun s wr => ∃ j : Nat, s = .int .i64 j ∧ 0 < j ∧ j ≤ t ∧ Hid (w = wr)) (fun s _ => t - (intOf s).toNat)
          case atStart => exact ⟨1, rfl, by omega, by omega, Lib.hid rfl⟩
          case round =>
            obtain ⟨j, rfl, hj0, hjt, hwr⟩ := hrel
            have hwr2 := hwr.out
            subst hwr2
            clear hwr
            by_cases hlt : j < t
            · have hjk : j < G.nodes.length := by omega
              obtain ⟨n0, n1, n2⟩ := hnode.out j hj0 hjk
              have hnj := hno.out j hlt
              generalize (G.nodes.getD j ⟨false, 0, 0⟩).gate = q at *
              generalize (G.nodes.getD j ⟨false, 0, 0⟩).a = na at *
              generalize (G.nodes.getD j ⟨false, 0, 0⟩).b = nb at *
              rcases hnj with rfl | e | e
              · go_wp2
                go_roundw
                case rel => exact ⟨j + 1, by go_num, by omega, by omega, Lib.hid trivial⟩
                case measure => simp [intOf]; omega
              · have e1 := beqf e
                cases q
                · go_wp2
                  go_roundw
                  case rel => exact ⟨j + 1, by go_num, by omega, by omega, Lib.hid trivial⟩
                  case measure => simp [intOf]; omega
                · go_wp2
                  go_roundw
                  case rel => exact ⟨j + 1, by go_num, by omega, by omega, Lib.hid trivial⟩
                  case measure => simp [intOf]; omega
              · have e1 := beqf e
                cases q
                · go_wp2
                  go_roundw
                  case rel => exact ⟨j + 1, by go_num, by omega, by omega, Lib.hid trivial⟩
                  case measure => simp [intOf]; omega
                · by_cases e2 : na = X
                  · subst e2
                    go_wp2
                    go_roundw
                    case rel => exact ⟨j + 1, by go_num, by omega, by omega, Lib.hid trivial⟩
                    case measure => simp [intOf]; omega
                  · have e3 := beqf e2
                    go_wp2
                    go_roundw
                    case rel => exact ⟨j + 1, by go_num, by omega, by omega, Lib.hid trivial⟩
                    case measure => simp [intOf]; omega
            · obtain rfl : j = t := by omega
              go_wp2
              go_ret2
              exact ⟨by rw [hs.out.1]; rfl, g, c, by rw [hs.out.2]; exact HR.out, RK.refl _⟩
      | none =>
        obtain ⟨t, htk⟩ : ∃ t, t = G.nodes.length := ⟨_, rfl⟩
        have hs : Hid ((andG G a b).2 = 2 * (G.nodes.length : Int) ∧ (andG G a b).1.nodes = G.nodes ++ [⟨true, hiV a b, loV a b⟩]) := Lib.hid (by rw [hG2.out, hfi]; exact ⟨rfl, rfl⟩)
        have hno := Lib.hid (find_no (.inr ⟨hfi, htk⟩))
        have htl : t ≤ G.nodes.length := by omega
        have ht0 : 0 < t := by have := hW.pos; omega
        clear hG hG2 hfi hh h hW
        have hfq : (fo = false) ∨ (fo = true ∧ fb = false) := by cases fo <;> cases fb <;> simp at hf ⊢
        clear hf
        generalize hX : hiV a b = X at *
        generalize hY : loV a b = Y at *
        clear hX hY
        rcases hfq with rfl | ⟨rfl, rfl⟩
        · go_enter Try.func58, Try.ntmps58
          go_upto_if 27 with (go_at_call 74; (with_reducible refine (hfo.out _).mono ?_); rintro e w2 ⟨rfl, rfl⟩)
          go_cut [1, 2] (fun s t wx => s = .int .u32 X ∧ t = .int .u32 Y ∧ w = wx)
          case first => (rcases hor with ⟨h1, rfl, rfl⟩ | ⟨h1, rfl, rfl⟩ <;> go_wp2 <;> go_meet <;> exact ⟨rfl, rfl, rfl⟩)
          obtain ⟨rfl, rfl, rfl⟩ := hcut
          clear hfo hor
          go_wp2
          go_loopw [10] (fun s wr => ∃ j : Nat, s = .int .i64 j ∧ 0 < j ∧ j ≤ t ∧ Hid (w = wr)) (fun s _ => t - (intOf s).toNat)
          case atStart => exact ⟨1, rfl, by omega, by omega, Lib.hid rfl⟩
          case round =>
            obtain ⟨j, rfl, hj0, hjt, hwr⟩ := hrel
            have hwr2 := hwr.out
            subst hwr2
            clear hwr
            by_cases hlt : j < t
            · have hjk : j < G.nodes.length := by omega
              obtain ⟨n0, n1, n2⟩ := hnode.out j hj0 hjk
              have hnj := hno.out j hlt
              generalize (G.nodes.getD j ⟨false, 0, 0⟩).gate = q at *
              generalize (G.nodes.getD j ⟨false, 0, 0⟩).a = na at *
              generalize (G.nodes.getD j ⟨false, 0, 0⟩).b = nb at *
              rcases hnj with rfl | e | e
              · go_wp2
                go_roundw
                case rel => exact ⟨j + 1, by go_num, by omega, by omega, Lib.hid trivial⟩
                case measure => simp [intOf]; omega
              · have e1 := beqf e
                cases q
                · go_wp2
                  go_roundw
                  case rel => exact ⟨j + 1, by go_num, by omega, by omega, Lib.hid trivial⟩
                  case measure => simp [intOf]; omega
                · go_wp2
                  go_roundw
                  case rel => exact ⟨j + 1, by go_num, by omega, by omega, Lib.hid trivial⟩
                  case measure => simp [intOf]; omega
              · have e1 := beqf e
                cases q
                · go_wp2
                  go_roundw
                  case rel => exact ⟨j + 1, by go_num, by omega, by omega, Lib.hid trivial⟩
                  case measure => simp [intOf]; omega
                · by_cases e2 : na = X
                  · subst e2
                    go_wp2
                    go_roundw
                    case rel => exact ⟨j + 1, by go_num, by omega, by omega, Lib.hid trivial⟩
                    case measure => simp [intOf]; omega
                  · have e3 := beqf e2
                    go_wp2
                    go_roundw
                    case rel => exact ⟨j + 1, by go_num, by omega, by omega, Lib.hid trivial⟩
                    case measure => simp [intOf]; omega
            · obtain rfl : j = t := by omega
              subst htk
              go_wp2_with (go_at_call 66; (with_reducible refine hgt.out.mono ?_); rintro e w3 ⟨rfl, g3, c3, hR3, hK3⟩)
              go_ret2
              exact ⟨by rw [hs.out.1]; rfl, g3, c3, by rw [hs.out.2]; exact hR3, hK3⟩
        · go_enter Try.func58, Try.ntmps58
          go_upto_if 27 with (go_at_call 74; (with_reducible refine (hfo.out _).mono ?_); rintro e w2 ⟨rfl, rfl⟩)
          go_cut [1, 2] (fun s t wx => s = .int .u32 X ∧ t = .int .u32 Y ∧ w = wx)
          case first => (rcases hor with ⟨h1, rfl, rfl⟩ | ⟨h1, rfl, rfl⟩ <;> go_wp2 <;> go_meet <;> exact ⟨rfl, rfl, rfl⟩)
          obtain ⟨rfl, rfl, rfl⟩ := hcut
          clear hfo hor
          go_wp2
          go_loopw [10] (fun s wr => ∃ j : Nat, s = .int .i64 j ∧ 0 < j ∧ j ≤ t ∧ Hid (w = wr)) (fun s _ => t - (intOf s).toNat)
          case atStart => exact ⟨1, rfl, by omega, by omega, Lib.hid rfl⟩
          case round =>
            obtain ⟨j, rfl, hj0, hjt, hwr⟩ := hrel
            have hwr2 := hwr.out
            subst hwr2
            clear hwr
            by_cases hlt : j < t
            · have hjk : j < G.nodes.length := by omega
              obtain ⟨n0, n1, n2⟩ := hnode.out j hj0 hjk
              have hnj := hno.out j hlt
              generalize (G.nodes.getD j ⟨false, 0, 0⟩).gate = q at *
              generalize (G.nodes.getD j ⟨false, 0, 0⟩).a = na at *
              generalize (G.nodes.getD j ⟨false, 0, 0⟩).b = nb at *
              rcases hnj with rfl | e | e
              · go_wp2
                go_roundw
                case rel => exact ⟨j + 1, by go_num, by omega, by omega, Lib.hid trivial⟩
                case measure => simp [intOf]; omega
              · have e1 := beqf e
                cases q
                · go_wp2
                  go_roundw
                  case rel => exact ⟨j + 1, by go_num, by omega, by omega, Lib.hid trivial⟩
                  case measure => simp [intOf]; omega
                · go_wp2
                  go_roundw
                  case rel => exact ⟨j + 1, by go_num, by omega, by omega, Lib.hid trivial⟩
                  case measure => simp [intOf]; omega
              · have e1 := beqf e
                cases q
                · go_wp2
                  go_roundw
                  case rel => exact ⟨j + 1, by go_num, by omega, by omega, Lib.hid trivial⟩
                  case measure => simp [intOf]; omega
                · by_cases e2 : na = X
                  · subst e2
                    go_wp2
                    go_roundw
                    case rel => exact ⟨j + 1, by go_num, by omega, by omega, Lib.hid trivial⟩
                    case measure => simp [intOf]; omega
                  · have e3 := beqf e2
                    go_wp2
                    go_roundw
                    case rel => exact ⟨j + 1, by go_num, by omega, by omega, Lib.hid trivial⟩
                    case measure => simp [intOf]; omega
            · obtain rfl : j = t := by omega
              subst htk
              go_wp2_with (go_at_call 66; (with_reducible refine hgt.out.mono ?_); rintro e w3 ⟨rfl, g3, c3, hR3, hK3⟩)
              go_ret2
              exact ⟨by rw [hs.out.1]; rfl, g3, c3, by rw [hs.out.2]; exact hR3, hK3⟩
end Go.Proofs.Ytmljpbbnllfgbaa
