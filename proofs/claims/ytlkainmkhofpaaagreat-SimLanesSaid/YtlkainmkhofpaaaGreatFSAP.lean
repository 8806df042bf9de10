/-
  The document's own graph: Not, Fold, gate, Raw, and.
  The document's own graph: Two, both.
  The document's own netlist (orreryref06): where it lies; what is left as it was.
-/
import Derived.Test.YtlkainmkhofpaaaGreatFSAO
import Derived.Test.YtlkainmkhofpaaaGreatFSAG
section
namespace Go.Proofs.YtlkainmkhofpaaaGreat
open Go.RowKit Go.Maps Num
set_option maxRecDepth 100000

theorem rnot_any (l : Int) (h : IsLit l) (w : World) :
    Calls Tryz.prog 121 #[.int .u32 l] w fun e w' => e = .returned (.int .u32 (notV l)) ∧ w = w' := by
  obtain ⟨h0, h1⟩ := h
  by_cases e : l % 2 = 0
  · have e0 : (l % 2 == 0) = true := by simpa using e
    have hx := Lib.hid (show (l + 1) % 4294967296 = notV l by unfold notV; rw [if_pos e0]; omega)
    clear e
    go_enter Tryz.func121, Tryz.ntmps121
    go_wp2
    go_ret
    exact ⟨ret_int hx.out, rfl⟩
  · have e0 : (l % 2 == 0) = false := by simpa using e
    have hx := Lib.hid (show (l - 1) % 4294967296 = notV l by unfold notV; rw [if_neg (by simpa using e)]; omega)
    clear e
    go_enter Tryz.func121, Tryz.ntmps121
    go_wp2
    go_ret
    exact ⟨ret_int hx.out, rfl⟩
theorem rfold_any (a b : Int) (ha : IsLit a) (hb : IsLit b) (w : World) :
    Calls Tryz.prog 126 #[.int .u32 a, .int .u32 b] w fun e w' => e = .returned (.tuple #[.int .u32 (foldV a b), .bool (foldB a b)]) ∧ w = w' := by
  by_cases h0 : a = 0
  · subst h0
    have hv := Lib.hid (fold_0 (a := 0) (b := b) (.inl rfl))
    go_enter Tryz.func126, Tryz.ntmps126
    go_wp2_with (go_at_call 121; refine (rnot_any _ hb _).mono ?_; rintro e w2 ⟨rfl, rfl⟩)
    go_ret2
    exact ⟨ret_intb hv.out.1.symm hv.out.2.symm, rfl⟩
  by_cases h1 : b = 0
  · subst h1
    have hv := Lib.hid (fold_0 (a := a) (b := 0) (.inr (.inl rfl)))
    have g0 := beqf h0
    clear h0
    go_enter Tryz.func126, Tryz.ntmps126
    go_wp2_with (go_at_call 121; refine (rnot_any _ hb _).mono ?_; rintro e w2 ⟨rfl, rfl⟩)
    go_ret2
    exact ⟨ret_intb hv.out.1.symm hv.out.2.symm, rfl⟩
  by_cases h2 : a = notV b
  · have hv := Lib.hid (fold_0 (a := a) (b := b) (.inr (.inr h2)))
    have g0 := beqf h0
    have g1 := beqf h1
    have g2 := beqt h2
    clear h0 h1 h2
    go_enter Tryz.func126, Tryz.ntmps126
    go_wp2_with (go_at_call 121; refine (rnot_any _ hb _).mono ?_; rintro e w2 ⟨rfl, rfl⟩)
    go_ret2
    exact ⟨ret_intb hv.out.1.symm hv.out.2.symm, rfl⟩
  by_cases h3 : a = 1
  · subst h3
    have hv := Lib.hid (fold_1 h1 h2)
    have g1 := beqf h1
    have g2 := beqf h2
    clear h0 h1 h2
    go_enter Tryz.func126, Tryz.ntmps126
    go_wp2_with (go_at_call 121; refine (rnot_any _ hb _).mono ?_; rintro e w2 ⟨rfl, rfl⟩)
    go_ret2
    exact ⟨ret_intb hv.out.1.symm hv.out.2.symm, rfl⟩
  by_cases h4 : b = 1
  · subst h4
    have hv := Lib.hid (fold_2 h0 h2 h3)
    have g0 := beqf h0
    have g2 := beqf h2
    have g3 := beqf h3
    clear h0 h1 h2 h3
    go_enter Tryz.func126, Tryz.ntmps126
    go_wp2_with (go_at_call 121; refine (rnot_any _ hb _).mono ?_; rintro e w2 ⟨rfl, rfl⟩)
    go_ret2
    exact ⟨ret_intb hv.out.1.symm hv.out.2.symm, rfl⟩
  by_cases h5 : a = b
  · subst h5
    have hv := Lib.hid (fold_3 h0 h3)
    have g0 := beqf h0
    have g2 := beqf h2
    have g3 := beqf h3
    clear h0 h1 h2 h3 h4
    go_enter Tryz.func126, Tryz.ntmps126
    go_wp2_with (go_at_call 121; refine (rnot_any _ hb _).mono ?_; rintro e w2 ⟨rfl, rfl⟩)
    go_ret2
    exact ⟨ret_intb hv.out.1.symm hv.out.2.symm, rfl⟩
  · have hv := Lib.hid (fold_4 h0 h1 h2 h3 h4 h5)
    have g0 := beqf h0
    have g1 := beqf h1
    have g2 := beqf h2
    have g3 := beqf h3
    have g4 := beqf h4
    have g5 := beqf h5
    clear h0 h1 h2 h3 h4 h5
    go_enter Tryz.func126, Tryz.ntmps126
    go_wp2_with (go_at_call 121; refine (rnot_any _ hb _).mono ?_; rintro e w2 ⟨rfl, rfl⟩)
    go_ret2
    exact ⟨ret_intb hv.out.1.symm hv.out.2.symm, rfl⟩

theorem rgate_any {w0 w : World} {B g c : Nat} {F H : Bool} {ns : List Nd} (h : Rf w0 w B g c F H ns) (hm : ns.length ≤ 200000) (a b : Int) :
    Calls Tryz.prog 127 #[.pointer (some ⟨B, 0, none⟩), .int .u32 a, .int .u32 b] w fun e w' => e = .returned (.tuple #[.int .u32 (2 * (ns.length : Int)), .int .i64 0]) ∧ ∃ g1 c1, Rf w0 w' B g1 c1 F H (ns ++ [⟨true, hiV a b, loV a b⟩]) ∧ Kept (RK w) w w' := by
  have hga := Lib.hid (rgates_any h hm)
  have hne2 : some B ≠ Value.ownBlock (.slice (some ⟨g, 0, none⟩) ns.length c) := by have := h.ne; simpa [Value.ownBlock] using this
  have hp := h.pos
  have HF0 := Lib.hid h
  obtain ⟨i0, hi, hz0, hz1, hz2⟩ := info_parts info_rnode
  generalize hk : ns.length = k at *
  have hk := Lib.hid hk
  clear h
  by_cases hab : a < b
  · have e1 : hiV a b = b := if_pos hab
    have e2 : loV a b = a := if_pos hab
    have g1 : decide (a < b) = true := by simp [hab]
    rw [e1, e2]
    clear e1 e2
    · go_enter Tryz.func127, Tryz.ntmps127
      go_wp2_with (first | (go_at_call 129; (with_reducible refine hga.out.mono ?_); rintro e w2 ⟨⟨m, rfl, hm2⟩, hB⟩; have HF2 := Lib.hid (HF0.out.step hB); have HR2 := Lib.hid HF2.out.row; rw [hk.out] at HR2; obtain ⟨-, -, c2, f2⟩ := HF2.out.cells; rw [hk.out] at c2; have f2 := f2 2; have hlt := HF2.out.blt; have hglt := HF2.out.glt; have hs0 := HF2.out.below.size; have g0 : decide ((262144 : Int) ≤ m) = false := by simp; omega) | (at_builtin; refine wpList_append_lies _ rfl _ _ 125 rfl w0.heap.size 129 i0 (.agg #[.bool false, .int .u32 0, .int .u32 0]) 3 12 Tryz.underlying125 hi hz0 hz1 hz2 rfl (by decide) (.slice (some ⟨g, 0, none⟩) k c) k _ rfl (HR2.out.alloc _) ⟨w2.heap.size, 0, none⟩ 1 1 [.bool false, .int .u32 b, .int .u32 a] rfl rfl (news3 (by go_simp) (by go_simp) (by go_simp)) (by simp [Value.oneCell']) (by decide) (by unfold maxLen; omega) (by omega) (by simp; omega) _ rfl ?_; intro g1 cap1 w1 hown1 hgrow1 hat1 hlt1; obtain ⟨x0, x1⟩ := grow_box hgrow1 (b := B) (o := 2) (v := .slice (some ⟨g, 0, none⟩) k c) (by go_simp) (by go_simp) hne2))
      go_ret2
      obtain ⟨r1, r2⟩ := rf_next HF2.out ((Below.refl _ _).alloc (Nat.le_refl _) _) ⟨true, b, a⟩ (by rw [hk.out]; exact hown1) hgrow1 hat1
      rw [hk.out] at r1 r2
      exact ⟨by congr 4, _, _, r1, RK.trans (RK.of_below hB) r2⟩
  · have e1 : hiV a b = a := if_neg hab
    have e2 : loV a b = b := if_neg hab
    have g1 : decide (a < b) = false := by simp [hab]
    rw [e1, e2]
    clear e1 e2
    · go_enter Tryz.func127, Tryz.ntmps127
      go_wp2_with (first | (go_at_call 129; (with_reducible refine hga.out.mono ?_); rintro e w2 ⟨⟨m, rfl, hm2⟩, hB⟩; have HF2 := Lib.hid (HF0.out.step hB); have HR2 := Lib.hid HF2.out.row; rw [hk.out] at HR2; obtain ⟨-, -, c2, f2⟩ := HF2.out.cells; rw [hk.out] at c2; have f2 := f2 2; have hlt := HF2.out.blt; have hglt := HF2.out.glt; have hs0 := HF2.out.below.size; have g0 : decide ((262144 : Int) ≤ m) = false := by simp; omega) | (at_builtin; refine wpList_append_lies _ rfl _ _ 125 rfl w0.heap.size 129 i0 (.agg #[.bool false, .int .u32 0, .int .u32 0]) 3 12 Tryz.underlying125 hi hz0 hz1 hz2 rfl (by decide) (.slice (some ⟨g, 0, none⟩) k c) k _ rfl (HR2.out.alloc _) ⟨w2.heap.size, 0, none⟩ 1 1 [.bool false, .int .u32 a, .int .u32 b] rfl rfl (news3 (by go_simp) (by go_simp) (by go_simp)) (by simp [Value.oneCell']) (by decide) (by unfold maxLen; omega) (by omega) (by simp; omega) _ rfl ?_; intro g1 cap1 w1 hown1 hgrow1 hat1 hlt1; obtain ⟨x0, x1⟩ := grow_box hgrow1 (b := B) (o := 2) (v := .slice (some ⟨g, 0, none⟩) k c) (by go_simp) (by go_simp) hne2))
      go_ret2
      obtain ⟨r1, r2⟩ := rf_next HF2.out ((Below.refl _ _).alloc (Nat.le_refl _) _) ⟨true, a, b⟩ (by rw [hk.out]; exact hown1) hgrow1 hat1
      rw [hk.out] at r1 r2
      exact ⟨by congr 4, _, _, r1, RK.trans (RK.of_below hB) r2⟩

theorem rthere_any {w0 w : World} {B g c : Nat} {F H : Bool} {ns : List Nd} (h : Rf w0 w B g c F H ns) (hm : ns.length ≤ 200000) {a : Option Addr} {n cap : Nat} {l : List Int} (hs : Row .u32 w a n l) (hl : ∀ x ∈ l, IsLit x ∧ x / 2 < ns.length) :
    Calls Tryz.prog 59 #[.pointer (some ⟨B, 0, none⟩), .slice a n cap] w fun e w' => e = .returned (.bool true) ∧ Below w.heap.size w w' := by
  obtain ⟨-, -, c2, -⟩ := h.cells
  have hblt := h.blt
  have HS := Lib.hid hs
  have HL := Lib.hid hl
  have hle := hs.le
  generalize hk : ns.length = k at *
  clear h hk hs hl
  go_enter Tryz.func59, Tryz.ntmps59
  go_wp2
  go_loopw [5] (fun s wr => ∃ j : Nat, j ≤ n ∧ s = .int .i64 j ∧ Below w.heap.size w wr) (fun s _ => n - (intOf s).toNat)
  case atStart => exact ⟨0, Nat.zero_le _, rfl, Below.refl _ _⟩
  case round =>
    obtain ⟨j, hj, rfl, hB⟩ := hrel
    by_cases hlt : j < n
    · obtain ⟨b, off, rfl, hb, hcell⟩ := HS.out.at (by omega)
      have hcj := stepc hB hb (hcell j hlt)
      have c2r := stepc hB hblt c2
      have hx := HL.out (l.getD j 0) (by have := HS.out.len; simp [List.getD, show j < l.length by omega])
      generalize l.getD j 0 = x at *
      have hx0 := hx.1.1
      have hx1 := hx.1.2
      have hxt : x.tdiv 2 = x / 2 := by rw [Int.tdiv_eq_ediv_of_nonneg hx0]
      have hw1 : IntKind.u32.wrap (x / 2) = x / 2 := by rw [w32]; omega
      have hw2 : IntKind.i64.wrap (x / 2) = x / 2 := IntWalk.i64_in _ (by omega)
      have hge : decide (x / 2 ≥ (k : Int)) = false := by simp; omega
      have hge2 : decide ((k : Int) ≤ x / 2) = false := by simp; omega
      have hBr := Lib.hid hB
      clear hcell hx hB
      go_wp2
      go_quiet (fail)
      go_wp2
      go_roundw
      case rel => exact ⟨j + 1, by omega, by go_num, nextw hBr.out (below_draws _ _)⟩
      case measure => simp [intOf]; omega
    · obtain rfl : j = n := by omega
      go_wp2
      go_ret
      exact ⟨rfl, hB⟩

theorem hiV_hl (a b : Int) : hiV (hiV a b) (loV a b) = hiV a b ∧ loV (hiV a b) (loV a b) = loV a b := by
  by_cases h : a < b
  · simp [hiV, loV, h]; omega
  · simp [hiV, loV, h]
theorem isPair_no {x y : Int} {n : Nd} (h : isPair x y n = false) : n.gate = false ∨ ¬ n.a = x ∨ ¬ n.b = y := by
  unfold isPair at h
  cases hg : n.gate <;> simp_all
  by_cases e : n.a = x
  · exact .inr (h e)
  · exact .inl e
theorem find_no {ns : List Nd} {x y : Int} {t : Nat} (h : findG ns x y = some t ∨ (findG ns x y = none ∧ t = ns.length)) : ∀ j, j < t → (ns.getD j ⟨false, 0, 0⟩).gate = false ∨ ¬ (ns.getD j ⟨false, 0, 0⟩).a = x ∨ ¬ (ns.getD j ⟨false, 0, 0⟩).b = y := by
  intro j hj
  apply isPair_no
  unfold findG at h
  rcases h with h | ⟨h, rfl⟩
  · obtain ⟨hi, -, hn⟩ := List.findIdx?_eq_some_iff_getElem.1 h
    have := hn j hj
    have hl : j < ns.length := by omega
    simpa [List.getD, hl] using this
  · rw [List.findIdx?_eq_none_iff] at h
    have := h ns[j] (by simp)
    simpa [List.getD, hj] using this

set_option maxHeartbeats 1000000 in
theorem rand_any {w0 w : World} {B g c : Nat} {G : Gr} (h : Rf w0 w B g c G.fold G.hash G.nodes) (hW : Wf G) (hm : G.nodes.length ≤ 200000) {a b : Int} (ha : IsLit a) (hb : IsLit b) :
    Calls Tryz.prog 120 #[.pointer (some ⟨B, 0, none⟩), .int .u32 a, .int .u32 b] w fun e w' => e = .returned (.tuple #[.int .u32 (andG G a b).2, .int .i64 0]) ∧ ∃ g1 c1, Rf w0 w' B g1 c1 G.fold G.hash (andG G a b).1.nodes ∧ Kept (RK w) w w' := by
  have hfo := Lib.hid (fun w => rfold_any a b ha hb w)
  obtain ⟨c0, c1, c2, -⟩ := h.cells
  have HR := Lib.hid h
  by_cases hf : (G.fold && foldB a b) = true
  · rw [show andG G a b = (G, foldV a b) from if_pos hf]
    rw [Bool.and_eq_true] at hf
    rw [hf.1] at c0
    rw [hf.2] at hfo
    generalize foldV a b = v at *
    have HF := Lib.hid hf
    clear h hW hf
    go_enter Tryz.func120, Tryz.ntmps120
    go_wp2_with (go_at_call 126; (with_reducible refine (hfo.out _).mono ?_); rintro e w2 ⟨rfl, rfl⟩)
    go_ret2
    exact ⟨rfl, g, c, HR.out, RK.refl _⟩
  · have hG : Hid (andG G a b = match seenG G a b with | some i => (G, 2 * (i : Int)) | none => gateG G a b) := Lib.hid (if_neg hf)
    have hlen := hm
    have hgt := Lib.hid (rgate_any h hm (hiV a b) (loV a b))
    rw [(hiV_hl a b).1, (hiV_hl a b).2] at hgt
    have hor : (a < b ∧ hiV a b = b ∧ loV a b = a) ∨ (¬ a < b ∧ hiV a b = a ∧ loV a b = b) := by unfold hiV loV; by_cases e : a < b <;> simp [e]
    have hnode := Lib.hid (fun i (h0 : 0 < i) (hi : i < G.nodes.length) => h.node h0 hi)
    have HW := Lib.hid hW
    obtain ⟨fo, hfo2⟩ : ∃ fo, fo = G.fold := ⟨_, rfl⟩
    obtain ⟨fb, hfb2⟩ : ∃ fb, fb = foldB a b := ⟨_, rfl⟩
    rw [← hfo2, ← hfb2] at hf
    rw [← hfo2] at c0
    rw [← hfb2] at hfo
    clear hfo2 hfb2
    generalize foldV a b = v at *
    have hhc : G.hash = false ∨ G.hash = true := by cases G.hash <;> simp
    rcases hhc with hh | hh
    · skip
      have hs : Hid ((andG G a b).2 = 2 * (G.nodes.length : Int) ∧ (andG G a b).1.nodes = G.nodes ++ [⟨true, hiV a b, loV a b⟩]) := Lib.hid (by rw [hG.out]; unfold seenG; rw [hh]; exact ⟨rfl, rfl⟩)
      rw [hh] at c1
      have hh2 := Lib.hid hh
      clear hG hh h hnode hW
      have hfq : (fo = false) ∨ (fo = true ∧ fb = false) := by cases fo <;> cases fb <;> simp at hf ⊢
      clear hf
      generalize hX : hiV a b = X at *
      generalize hY : loV a b = Y at *
      clear hX hY
      rcases hfq with rfl | ⟨rfl, rfl⟩
      · go_enter Tryz.func120, Tryz.ntmps120
        go_upto_if 27 with (go_at_call 126; (with_reducible refine (hfo.out _).mono ?_); rintro e w2 ⟨rfl, rfl⟩)
        go_cut [1, 2] (fun s t wx => s = .int .u32 X ∧ t = .int .u32 Y ∧ w = wx)
        case first => (rcases hor with ⟨h1, rfl, rfl⟩ | ⟨h1, rfl, rfl⟩ <;> go_wp2 <;> go_meet <;> exact ⟨rfl, rfl, rfl⟩)
        obtain ⟨rfl, rfl, rfl⟩ := hcut
        clear hfo hor
        go_wp2
        go_loopw [10] (fun s wr => s = .int .i64 1 ∧ Hid (w = wr)) (fun _ _ => 0)
        case atStart => exact ⟨rfl, Lib.hid rfl⟩
        case round =>
          obtain ⟨rfl, hwr⟩ := hrel
          have hwr2 := hwr.out
          subst hwr2
          clear hwr
          go_wp2_with (go_at_call 127; (with_reducible refine hgt.out.mono ?_); rintro e w3 ⟨rfl, g3, c3, hR3, hK3⟩)
          go_ret2
          exact ⟨by rw [hs.out.1]; rfl, g3, c3, by rw [hs.out.2]; exact hR3, hK3⟩
      · go_enter Tryz.func120, Tryz.ntmps120
        go_upto_if 27 with (go_at_call 126; (with_reducible refine (hfo.out _).mono ?_); rintro e w2 ⟨rfl, rfl⟩)
        go_cut [1, 2] (fun s t wx => s = .int .u32 X ∧ t = .int .u32 Y ∧ w = wx)
        case first => (rcases hor with ⟨h1, rfl, rfl⟩ | ⟨h1, rfl, rfl⟩ <;> go_wp2 <;> go_meet <;> exact ⟨rfl, rfl, rfl⟩)
        obtain ⟨rfl, rfl, rfl⟩ := hcut
        clear hfo hor
        go_wp2
        go_loopw [10] (fun s wr => s = .int .i64 1 ∧ Hid (w = wr)) (fun _ _ => 0)
        case atStart => exact ⟨rfl, Lib.hid rfl⟩
        case round =>
          obtain ⟨rfl, hwr⟩ := hrel
          have hwr2 := hwr.out
          subst hwr2
          clear hwr
          go_wp2_with (go_at_call 127; (with_reducible refine hgt.out.mono ?_); rintro e w3 ⟨rfl, g3, c3, hR3, hK3⟩)
          go_ret2
          exact ⟨by rw [hs.out.1]; rfl, g3, c3, by rw [hs.out.2]; exact hR3, hK3⟩
    · have hG2 : Hid (andG G a b = match findG G.nodes (hiV a b) (loV a b) with | some i => (G, 2 * (i : Int)) | none => gateG G a b) := Lib.hid (by rw [hG.out]; unfold seenG; rw [if_pos hh])
      rw [hh] at c1
      have hh2 := Lib.hid hh
      cases hfi : findG G.nodes (hiV a b) (loV a b) with
      | some t =>
        have hs : Hid ((andG G a b).2 = 2 * (t : Int) ∧ (andG G a b).1.nodes = G.nodes) := Lib.hid (by rw [hG2.out, hfi]; exact ⟨rfl, rfl⟩)
        have hno := Lib.hid (find_no (.inl hfi))
        obtain ⟨nt, ht, hg1, ha1, hb1⟩ := findG_some hfi
        have htl := (List.getElem?_eq_some_iff.1 ht).1
        have ht0 : 0 < t := by
          rcases Nat.eq_zero_or_pos t with e | e
          · subst e; rw [hW.zero] at ht; simp at ht; subst ht; cases hg1
          · exact e
        obtain ⟨d0, d1, d2⟩ := h.node ht0 htl
        rw [show G.nodes.getD t ⟨false, 0, 0⟩ = nt by simp [List.getD, ht], hg1, ha1, hb1] at *
        clear hG hG2 hfi hh h hW ht hg1 ha1 hb1
        have hfq : (fo = false) ∨ (fo = true ∧ fb = false) := by cases fo <;> cases fb <;> simp at hf ⊢
        clear hf
        generalize hX : hiV a b = X at *
        generalize hY : loV a b = Y at *
        clear hX hY
        rcases hfq with rfl | ⟨rfl, rfl⟩
        · go_enter Tryz.func120, Tryz.ntmps120
          go_upto_if 27 with (go_at_call 126; (with_reducible refine (hfo.out _).mono ?_); rintro e w2 ⟨rfl, rfl⟩)
          go_cut [1, 2] (fun s t wx => s = .int .u32 X ∧ t = .int .u32 Y ∧ w = wx)
          case first => (rcases hor with ⟨h1, rfl, rfl⟩ | ⟨h1, rfl, rfl⟩ <;> go_wp2 <;> go_meet <;> exact ⟨rfl, rfl, rfl⟩)
          obtain ⟨rfl, rfl, rfl⟩ := hcut
          clear hfo hor
          go_wp2
          go_loopw [10] (fun s wr => ∃ j : Nat, s = .int .i64 j ∧ 0 < j ∧ j ≤ t ∧ Hid (w = wr)) (fun s _ => t - (intOf s).toNat)
          case atStart => exact ⟨1, rfl, by omega, by omega, Lib.hid rfl⟩
          case round =>
            obtain ⟨j, rfl, hj0, hjt, hwr⟩ := hrel
            have hwr2 := hwr.out
            subst hwr2
            clear hwr
            by_cases hlt : j < t
            · have hjk : j < G.nodes.length := by omega
              obtain ⟨n0, n1, n2⟩ := hnode.out j hj0 hjk
              have hnj := hno.out j hlt
              generalize (G.nodes.getD j ⟨false, 0, 0⟩).gate = q at *
              generalize (G.nodes.getD j ⟨false, 0, 0⟩).a = na at *
              generalize (G.nodes.getD j ⟨false, 0, 0⟩).b = nb at *
              rcases hnj with rfl | e | e
              · go_wp2
                go_roundw
                case rel => exact ⟨j + 1, by go_num, by omega, by omega, Lib.hid trivial⟩
                case measure => simp [intOf]; omega
              · have e1 := beqf e
                cases q
                · go_wp2
                  go_roundw
                  case rel => exact ⟨j + 1, by go_num, by omega, by omega, Lib.hid trivial⟩
                  case measure => simp [intOf]; omega
                · go_wp2
                  go_roundw
                  case rel => exact ⟨j + 1, by go_num, by omega, by omega, Lib.hid trivial⟩
                  case measure => simp [intOf]; omega
              · have e1 := beqf e
                cases q
                · go_wp2
                  go_roundw
                  case rel => exact ⟨j + 1, by go_num, by omega, by omega, Lib.hid trivial⟩
                  case measure => simp [intOf]; omega
                · by_cases e2 : na = X
                  · subst e2
                    go_wp2
                    go_roundw
                    case rel => exact ⟨j + 1, by go_num, by omega, by omega, Lib.hid trivial⟩
                    case measure => simp [intOf]; omega
                  · have e3 := beqf e2
                    go_wp2
                    go_roundw
                    case rel => exact ⟨j + 1, by go_num, by omega, by omega, Lib.hid trivial⟩
                    case measure => simp [intOf]; omega
            · obtain rfl : j = t := by omega
              go_wp2
              go_ret2
              exact ⟨by rw [hs.out.1]; rfl, g, c, by rw [hs.out.2]; exact HR.out, RK.refl _⟩
        · go_enter Tryz.func120, Tryz.ntmps120
          go_upto_if 27 with (go_at_call 126; (with_reducible refine (hfo.out _).mono ?_); rintro e w2 ⟨rfl, rfl⟩)
          go_cut [1, 2] (fun s t wx => s = .int .u32 X ∧ t = .int .u32 Y ∧ w = wx)
          case first => (rcases hor with ⟨h1, rfl, rfl⟩ | ⟨h1, rfl, rfl⟩ <;> go_wp2 <;> go_meet <;> exact ⟨rfl, rfl, rfl⟩)
          obtain ⟨rfl, rfl, rfl⟩ := hcut
          clear hfo hor
          go_wp2
          go_loopw [10] (fun s wr => ∃ j : Nat, s = .int .i64 j ∧ 0 < j ∧ j ≤ t ∧ Hid (w = wr)) (fun s _ => t - (intOf s).toNat)
          case atStart => exact ⟨1, rfl, by omega, by omega, Lib.hid rfl⟩
          case round =>
            obtain ⟨j, rfl, hj0, hjt, hwr⟩ := hrel
            have hwr2 := hwr.out
            subst hwr2
            clear hwr
            by_cases hlt : j < t
            · have hjk : j < G.nodes.length := by omega
              obtain ⟨n0, n1, n2⟩ := hnode.out j hj0 hjk
              have hnj := hno.out j hlt
              generalize (G.nodes.getD j ⟨false, 0, 0⟩).gate = q at *
              generalize (G.nodes.getD j ⟨false, 0, 0⟩).a = na at *
              generalize (G.nodes.getD j ⟨false, 0, 0⟩).b = nb at *
              rcases hnj with rfl | e | e
              · go_wp2
                go_roundw
                case rel => exact ⟨j + 1, by go_num, by omega, by omega, Lib.hid trivial⟩
                case measure => simp [intOf]; omega
              · have e1 := beqf e
                cases q
                · go_wp2
                  go_roundw
                  case rel => exact ⟨j + 1, by go_num, by omega, by omega, Lib.hid trivial⟩
                  case measure => simp [intOf]; omega
                · go_wp2
                  go_roundw
                  case rel => exact ⟨j + 1, by go_num, by omega, by omega, Lib.hid trivial⟩
                  case measure => simp [intOf]; omega
              · have e1 := beqf e
                cases q
                · go_wp2
                  go_roundw
                  case rel => exact ⟨j + 1, by go_num, by omega, by omega, Lib.hid trivial⟩
                  case measure => simp [intOf]; omega
                · by_cases e2 : na = X
                  · subst e2
                    go_wp2
                    go_roundw
                    case rel => exact ⟨j + 1, by go_num, by omega, by omega, Lib.hid trivial⟩
                    case measure => simp [intOf]; omega
                  · have e3 := beqf e2
                    go_wp2
                    go_roundw
                    case rel => exact ⟨j + 1, by go_num, by omega, by omega, Lib.hid trivial⟩
                    case measure => simp [intOf]; omega
            · obtain rfl : j = t := by omega
              go_wp2
              go_ret2
              exact ⟨by rw [hs.out.1]; rfl, g, c, by rw [hs.out.2]; exact HR.out, RK.refl _⟩
      | none =>
        obtain ⟨t, htk⟩ : ∃ t, t = G.nodes.length := ⟨_, rfl⟩
        have hs : Hid ((andG G a b).2 = 2 * (G.nodes.length : Int) ∧ (andG G a b).1.nodes = G.nodes ++ [⟨true, hiV a b, loV a b⟩]) := Lib.hid (by rw [hG2.out, hfi]; exact ⟨rfl, rfl⟩)
        have hno := Lib.hid (find_no (.inr ⟨hfi, htk⟩))
        have htl : t ≤ G.nodes.length := by omega
        have ht0 : 0 < t := by have := hW.pos; omega
        clear hG hG2 hfi hh h hW
        have hfq : (fo = false) ∨ (fo = true ∧ fb = false) := by cases fo <;> cases fb <;> simp at hf ⊢
        clear hf
        generalize hX : hiV a b = X at *
        generalize hY : loV a b = Y at *
        clear hX hY
        rcases hfq with rfl | ⟨rfl, rfl⟩
        · go_enter Tryz.func120, Tryz.ntmps120
          go_upto_if 27 with (go_at_call 126; (with_reducible refine (hfo.out _).mono ?_); rintro e w2 ⟨rfl, rfl⟩)
          go_cut [1, 2] (fun s t wx => s = .int .u32 X ∧ t = .int .u32 Y ∧ w = wx)
          case first => (rcases hor with ⟨h1, rfl, rfl⟩ | ⟨h1, rfl, rfl⟩ <;> go_wp2 <;> go_meet <;> exact ⟨rfl, rfl, rfl⟩)
          obtain ⟨rfl, rfl, rfl⟩ := hcut
          clear hfo hor
          go_wp2
          go_loopw [10] (fun s wr => ∃ j : Nat, s = .int .i64 j ∧ 0 < j ∧ j ≤ t ∧ Hid (w = wr)) (fun s _ => t - (intOf s).toNat)
          case atStart => exact ⟨1, rfl, by omega, by omega, Lib.hid rfl⟩
          case round =>
            obtain ⟨j, rfl, hj0, hjt, hwr⟩ := hrel
            have hwr2 := hwr.out
            subst hwr2
            clear hwr
            by_cases hlt : j < t
            · have hjk : j < G.nodes.length := by omega
              obtain ⟨n0, n1, n2⟩ := hnode.out j hj0 hjk
              have hnj := hno.out j hlt
              generalize (G.nodes.getD j ⟨false, 0, 0⟩).gate = q at *
              generalize (G.nodes.getD j ⟨false, 0, 0⟩).a = na at *
              generalize (G.nodes.getD j ⟨false, 0, 0⟩).b = nb at *
              rcases hnj with rfl | e | e
              · go_wp2
                go_roundw
                case rel => exact ⟨j + 1, by go_num, by omega, by omega, Lib.hid trivial⟩
                case measure => simp [intOf]; omega
              · have e1 := beqf e
                cases q
                · go_wp2
                  go_roundw
                  case rel => exact ⟨j + 1, by go_num, by omega, by omega, Lib.hid trivial⟩
                  case measure => simp [intOf]; omega
                · go_wp2
                  go_roundw
                  case rel => exact ⟨j + 1, by go_num, by omega, by omega, Lib.hid trivial⟩
                  case measure => simp [intOf]; omega
              · have e1 := beqf e
                cases q
                · go_wp2
                  go_roundw
                  case rel => exact ⟨j + 1, by go_num, by omega, by omega, Lib.hid trivial⟩
                  case measure => simp [intOf]; omega
                · by_cases e2 : na = X
                  · subst e2
                    go_wp2
                    go_roundw
                    case rel => exact ⟨j + 1, by go_num, by omega, by omega, Lib.hid trivial⟩
                    case measure => simp [intOf]; omega
                  · have e3 := beqf e2
                    go_wp2
                    go_roundw
                    case rel => exact ⟨j + 1, by go_num, by omega, by omega, Lib.hid trivial⟩
                    case measure => simp [intOf]; omega
            · obtain rfl : j = t := by omega
              subst htk
              go_wp2_with (go_at_call 127; (with_reducible refine hgt.out.mono ?_); rintro e w3 ⟨rfl, g3, c3, hR3, hK3⟩)
              go_ret2
              exact ⟨by rw [hs.out.1]; rfl, g3, c3, by rw [hs.out.2]; exact hR3, hK3⟩
        · go_enter Tryz.func120, Tryz.ntmps120
          go_upto_if 27 with (go_at_call 126; (with_reducible refine (hfo.out _).mono ?_); rintro e w2 ⟨rfl, rfl⟩)
          go_cut [1, 2] (fun s t wx => s = .int .u32 X ∧ t = .int .u32 Y ∧ w = wx)
          case first => (rcases hor with ⟨h1, rfl, rfl⟩ | ⟨h1, rfl, rfl⟩ <;> go_wp2 <;> go_meet <;> exact ⟨rfl, rfl, rfl⟩)
          obtain ⟨rfl, rfl, rfl⟩ := hcut
          clear hfo hor
          go_wp2
          go_loopw [10] (fun s wr => ∃ j : Nat, s = .int .i64 j ∧ 0 < j ∧ j ≤ t ∧ Hid (w = wr)) (fun s _ => t - (intOf s).toNat)
          case atStart => exact ⟨1, rfl, by omega, by omega, Lib.hid rfl⟩
          case round =>
            obtain ⟨j, rfl, hj0, hjt, hwr⟩ := hrel
            have hwr2 := hwr.out
            subst hwr2
            clear hwr
            by_cases hlt : j < t
            · have hjk : j < G.nodes.length := by omega
              obtain ⟨n0, n1, n2⟩ := hnode.out j hj0 hjk
              have hnj := hno.out j hlt
              generalize (G.nodes.getD j ⟨false, 0, 0⟩).gate = q at *
              generalize (G.nodes.getD j ⟨false, 0, 0⟩).a = na at *
              generalize (G.nodes.getD j ⟨false, 0, 0⟩).b = nb at *
              rcases hnj with rfl | e | e
              · go_wp2
                go_roundw
                case rel => exact ⟨j + 1, by go_num, by omega, by omega, Lib.hid trivial⟩
                case measure => simp [intOf]; omega
              · have e1 := beqf e
                cases q
                · go_wp2
                  go_roundw
                  case rel => exact ⟨j + 1, by go_num, by omega, by omega, Lib.hid trivial⟩
                  case measure => simp [intOf]; omega
                · go_wp2
                  go_roundw
                  case rel => exact ⟨j + 1, by go_num, by omega, by omega, Lib.hid trivial⟩
                  case measure => simp [intOf]; omega
              · have e1 := beqf e
                cases q
                · go_wp2
                  go_roundw
                  case rel => exact ⟨j + 1, by go_num, by omega, by omega, Lib.hid trivial⟩
                  case measure => simp [intOf]; omega
                · by_cases e2 : na = X
                  · subst e2
                    go_wp2
                    go_roundw
                    case rel => exact ⟨j + 1, by go_num, by omega, by omega, Lib.hid trivial⟩
                    case measure => simp [intOf]; omega
                  · have e3 := beqf e2
                    go_wp2
                    go_roundw
                    case rel => exact ⟨j + 1, by go_num, by omega, by omega, Lib.hid trivial⟩
                    case measure => simp [intOf]; omega
            · obtain rfl : j = t := by omega
              subst htk
              go_wp2_with (go_at_call 127; (with_reducible refine hgt.out.mono ?_); rintro e w3 ⟨rfl, g3, c3, hR3, hK3⟩)
              go_ret2
              exact ⟨by rw [hs.out.1]; rfl, g3, c3, by rw [hs.out.2]; exact hR3, hK3⟩
end Go.Proofs.YtlkainmkhofpaaaGreat
end

section
namespace Go.Proofs.YtlkainmkhofpaaaGreat
open Go.RowKit Go.Maps Num
set_option maxRecDepth 100000

/-- What a call of two comes to. -/
def RTwo (N : Nat) (op : Int) (T : Gr → Int → Int → Gr × Int) : Prop := ∀ (w0 w : World) (B g c : Nat) (G : Gr) (a b : Int), Rf w0 w B g c G.fold G.hash G.nodes → Wf G → G.nodes.length ≤ N → There G a → There G b →
    Calls Tryz.prog 111 #[.pointer (some ⟨B, 0, none⟩), .int .i64 op, .int .u32 a, .int .u32 b] w fun e w' => e = .returned (.tuple #[.int .u32 (T G a b).2, .int .i64 0]) ∧ ∃ g1 c1, Rf w0 w' B g1 c1 G.fold G.hash (T G a b).1.nodes ∧ Kept (RK w) w w'

theorem rtwo_and : RTwo 199000 1 andG := by
  intro w0 w B g c G a b h hW hm ha hb
  have hand := Lib.hid (rand_any h hW (by omega) ha.1 hb.1)
  clear h hW ha hb
  generalize (andG G a b) = r at *
  go_enter Tryz.func111, Tryz.ntmps111
  go_wp2_with (go_at_call 120; (with_reducible refine hand.out.mono ?_); rintro e w3 ⟨rfl, g3, c3, hR3, hK3⟩)
  go_ret2
  exact ⟨rfl, g3, c3, hR3, hK3⟩

theorem rtwo_or : RTwo 199000 2 orG := by
  intro w0 w B g c G a b h hW hm ha hb
  have hand := Lib.hid (rand_any h hW (by omega) ha.not.1 hb.not.1)
  have hgd := andG_good hW ha.not hb.not (by omega)
  have hn1 := Lib.hid (fun w => rnot_any a ha.1 w)
  have hn2 := Lib.hid (fun w => rnot_any b hb.1 w)
  have hn3 := Lib.hid (fun w => rnot_any _ hgd.there.1 w)
  clear h hW ha hb hgd
  unfold orG
  generalize (andG G (notV a) (notV b)) = r at *
  go_enter Tryz.func111, Tryz.ntmps111
  go_wp2_with (first
    | (go_at_call 120; (with_reducible refine hand.out.mono ?_); rintro e w3 ⟨rfl, g3, c3, hR3, hK3⟩)
    | (go_at_call 121; (with_reducible refine (hn1.out _).mono ?_); rintro e w3 ⟨rfl, rfl⟩)
    | (go_at_call 121; (with_reducible refine (hn2.out _).mono ?_); rintro e w3 ⟨rfl, rfl⟩)
    | (go_at_call 121; (with_reducible refine (hn3.out _).mono ?_); rintro e w4 ⟨rfl, rfl⟩))
  go_ret2
  exact ⟨rfl, g3, c3, hR3, hK3⟩

theorem rboth_any {w0 w : World} {B g c : Nat} {G : Gr} {x y z t : Int} (h : Rf w0 w B g c G.fold G.hash G.nodes) (hW : Wf G) (hm : G.nodes.length ≤ 190000) (hx : There G x) (hy : There G y) (hz : There G z) (ht : There G t) :
    Calls Tryz.prog 122 #[.pointer (some ⟨B, 0, none⟩), .int .u32 x, .int .u32 y, .int .u32 z, .int .u32 t] w fun e w' => e = .returned (.tuple #[.int .u32 (eitherG G x y z t).2, .int .i64 0]) ∧ ∃ g1 c1, Rf w0 w' B g1 c1 G.fold G.hash (eitherG G x y z t).1.nodes ∧ Kept (RK w) w w' := by
  have g1 := andG_good hW hx hy (by omega)
  have l1 := g1.len
  have g2 := andG_good g1.wf (g1.le.there hz) (g1.le.there ht) (by omega)
  have l2 := g2.len
  have h1 := Lib.hid (rand_any h hW (by omega) hx.1 hy.1)
  have h2 := Lib.hid (fun w2 g c (hR : Rf w0 w2 B g c (andG G x y).1.fold (andG G x y).1.hash (andG G x y).1.nodes) => rand_any hR g1.wf (by omega) hz.1 ht.1)
  have h3 := Lib.hid (fun w2 g c (hR : Rf w0 w2 B g c (andG (andG G x y).1 z t).1.fold (andG (andG G x y).1 z t).1.hash (andG (andG G x y).1 z t).1.nodes) => rtwo_or w0 w2 B g c _ _ _ hR g2.wf (by omega) (g2.le.there g1.there) g2.there)
  have e1 := Lib.hid (And.intro g1.le.fold g1.le.hash)
  have e2 := Lib.hid (And.intro g2.le.fold g2.le.hash)
  clear h hW hx hy hz ht g1 g2 l1 l2
  unfold eitherG
  generalize (andG G x y) = r1 at *
  generalize (andG r1.1 z t) = r2 at *
  generalize (orG r2.1 r1.2 r2.2) = r3 at *
  go_enter Tryz.func122, Tryz.ntmps122
  go_wp2_with (first
    | (go_at_call 120; (with_reducible refine h1.out.mono ?_); rintro e w3 ⟨rfl, g3, c3, hR3, hK3⟩; rw [← e1.out.1, ← e1.out.2] at hR3; have h22 := Lib.hid (h2.out _ _ _ hR3))
    | (go_at_call 120; (with_reducible refine h22.out.mono ?_); rintro e w4 ⟨rfl, g4, c4, hR4, hK4⟩; rw [← e2.out.1, ← e2.out.2] at hR4; have h33 := Lib.hid (h3.out _ _ _ hR4))
    | (go_at_call 111; (with_reducible refine h33.out.mono ?_); rintro e w5 ⟨rfl, g5, c5, hR5, hK5⟩))
  go_ret2
  refine ⟨rfl, g5, c5, ?_, RK.trans hK3 (RK.trans hK4 hK5)⟩
  rw [e2.out.1, e2.out.2, e1.out.1, e1.out.2] at hR5
  exact hR5

theorem rtwo_xor : RTwo 190000 3 xorG := by
  intro w0 w B g c G a b h hW hm ha hb
  have hn1 := Lib.hid (fun w => rnot_any a ha.1 w)
  have hn2 := Lib.hid (fun w => rnot_any b hb.1 w)
  have hbo := Lib.hid (fun (h9 : G.nodes.length ≤ 190000) => rboth_any h hW h9 ha hb.not ha.not hb)
  clear h hW ha hb
  unfold xorG
  generalize (eitherG G a (notV b) (notV a) b) = r at *
  go_enter Tryz.func111, Tryz.ntmps111
  go_wp2_with (first
    | (go_at_call 122; (with_reducible refine (hbo.out hm).mono ?_); rintro e w3 ⟨rfl, g3, c3, hR3, hK3⟩)
    | (go_at_call 121; (with_reducible refine (hn1.out _).mono ?_); rintro e w3 ⟨rfl, rfl⟩)
    | (go_at_call 121; (with_reducible refine (hn2.out _).mono ?_); rintro e w3 ⟨rfl, rfl⟩))
  go_ret2
  exact ⟨rfl, g3, c3, hR3, hK3⟩
end Go.Proofs.YtlkainmkhofpaaaGreat
end

section
namespace Go.Proofs.YtlkainmkhofpaaaGreat
open Go.RowKit Go.Maps
set_option maxRecDepth 100000

/-- The document's netlists' blocks. -/
def DT (T : Nat) : Prop := T = 127 ∨ T = 129 ∨ T = 115 ∨ T = 124 ∨ T = 117
def DK (w : World) (k : Nat) : Prop := ∃ cur T fz, w.heap[k]? = some (.cells cur T fz) ∧ DT T
theorem Kept.mono {F F' : Nat → Prop} {w w' : World} (h : Kept F w w') (hF : ∀ k, F k → F' k) : Kept F' w w' := ⟨h.os, h.tape, h.output, h.size, fun k hk hn => h.block k hk (fun hf => hn (hF k hf))⟩
theorem DK.trans {a b c : World} (h : Kept (DK a) a b) (k : Kept (DK b) b c) : Kept (DK a) a c :=
  h.trans k (fun x hx => by
    by_cases hl : x < a.heap.size
    · by_cases hn : DK a x
      · exact .inl hn
      · obtain ⟨cur, T, fz, h1, h2⟩ := hx
        rw [h.block x hl hn] at h1
        exact absurd ⟨cur, T, fz, h1, h2⟩ hn
    · exact .inr (by omega))
theorem DK.refl (w : World) : Kept (DK w) w w := Kept.refl _ _
theorem DK.of_below {w w2 : World} (h : Below w.heap.size w w2) : Kept (DK w) w w2 := Kept.of_below h
theorem DK.of_RK {w w2 : World} (h : Kept (RK w) w w2) : Kept (DK w) w w2 := h.mono (fun k ⟨cur, T, fz, h1, h2⟩ => ⟨cur, T, fz, h1, by rcases h2 with h2 | h2; exact .inl h2; exact .inr (.inl h2)⟩)
/-- F holds no block of the document's netlist. -/
def NoDoc (w : World) (F : Nat → Prop) : Prop := ∀ k cur T fz, F k → w.heap[k]? = some (.cells cur T fz) → ¬ DT T ∧ T ≠ 39
theorem NetIs.noDoc {w : World} {q : NPl} {N : Nt} (h : NetIs w q N) : NoDoc w q.has := by
  intro k cur T fz hp hk
  refine ⟨fun hT => ?_, fun hT => ?_⟩
  · rcases hT with rfl | rfl | rfl | rfl | rfl <;> exact h.other hk (by decide) (by decide) (by decide) (by decide) (by decide) (by decide) hp
  · subst hT; exact h.other hk (by decide) (by decide) (by decide) (by decide) (by decide) (by decide) hp
/-- A netlist of the program is as it was, where the document's turned. -/
theorem NetIs.asideD {w w' : World} {q : NPl} {N : Nt} (h : NetIs w q N) (hk : Kept (DK w) w w') : NetIs w' q N := by
  refine h.beside hk (fun k ⟨cur, T, fz, h1, h2⟩ hp => (h.noDoc k cur T fz hp h1).1 h2) (fun k cur fz ⟨cur2, T, fz2, h1, h2⟩ h3 => ?_)
  rw [h1] at h3
  simp at h3
  obtain ⟨-, rfl, -⟩ := h3
  rcases h2 with h2 | h2 | h2 | h2 | h2 <;> revert h2 <;> decide

/-- A row of numbers. -/
structure URow (w : World) (a : Option Addr) (n c : Nat) (l : List Int) : Prop where
  len : l.length = n
  own : w.ownsRow 0 39 1 (.slice a n c) n (l.map (Value.int .u32))
theorem URow.below {w w' : World} {a : Option Addr} {n c : Nat} {l : List Int} (h : URow w a n c l) (hb : Below w.heap.size w w') : URow w' a n c l := ⟨h.len, own_below h.own hb⟩
theorem URow.row {w : World} {a : Option Addr} {n c : Nat} {l : List Int} (h : URow w a n c l) : Row .u32 w a n l := Row.of_own h.own h.len (own_maxLen h.own)
theorem URow.keptF {F : Nat → Prop} {w w' : World} {a : Option Addr} {n c : Nat} {l : List Int} (h : URow w a n c l) (hk : Kept F w w') (hF : ∀ k cur fz, F k → w.heap[k]? ≠ some (.cells cur 39 fz)) : URow w' a n c l :=
  ⟨h.len, own_keptF h.own hk (fun k e hf => by obtain ⟨cur, hh⟩ := own_type h.own e; exact hF k cur _ hf hh)⟩
theorem DK.noU {w : World} : ∀ k cur fz, DK w k → w.heap[k]? ≠ some (.cells cur 39 fz) := by
  intro k cur fz ⟨cur2, T, fz2, h1, h2⟩ h3
  rw [h1] at h3
  simp at h3
  obtain ⟨-, rfl, -⟩ := h3
  rcases h2 with h2 | h2 | h2 | h2 | h2 <;> revert h2 <;> decide

structure RBusAt (w0 w : World) (v : Value) (L : List Bus) (K : List BV) : Prop where
  own : w.ownsRow w0.heap.size 124 2 v L.length (bvCells K)
  len : K.length = L.length
  row : ∀ (i : Nat) (k : BV) (b : Bus), K[i]? = some k → L[i]? = some b → k.name = b.name ∧ URow w k.a k.n k.c b.lits
def RBusRow (w0 w : World) (v : Value) (L : List Bus) : Prop := ∃ K, RBusAt w0 w v L K
theorem RBusRow.nil (w0 w : World) : RBusRow w0 w (.slice none 0 0) [] := ⟨[], ⟨rfl, .inl ⟨rfl, rfl⟩⟩, rfl, fun i k b h => by simp at h⟩
theorem RBusAt.below {w0 w w' : World} {v : Value} {L : List Bus} {K : List BV} (h : RBusAt w0 w v L K) (hb : Below w.heap.size w w') : RBusAt w0 w' v L K :=
  ⟨own_below h.own hb, h.len, fun i k b e1 e2 => ⟨(h.row i k b e1 e2).1, (h.row i k b e1 e2).2.below hb⟩⟩
theorem RBusRow.below {w0 w w' : World} {v : Value} {L : List Bus} (h : RBusRow w0 w v L) (hb : Below w.heap.size w w') : RBusRow w0 w' v L := let ⟨K, hK⟩ := h; ⟨K, hK.below hb⟩
theorem RBusAt.keptF {F : Nat → Prop} {w0 w w' : World} {v : Value} {L : List Bus} {K : List BV} (h : RBusAt w0 w v L K) (hk : Kept F w w') (hn : ∀ k, v.ownBlock = some k → ¬ F k) (hF : ∀ k cur fz, F k → w.heap[k]? ≠ some (.cells cur 39 fz)) : RBusAt w0 w' v L K :=
  ⟨own_keptF h.own hk hn, h.len, fun i k b e1 e2 => ⟨(h.row i k b e1 e2).1, (h.row i k b e1 e2).2.keptF hk hF⟩⟩
theorem RBusRow.keptF {F : Nat → Prop} {w0 w w' : World} {v : Value} {L : List Bus} (h : RBusRow w0 w v L) (hk : Kept F w w') (hn : ∀ k, v.ownBlock = some k → ¬ F k) (hF : ∀ k cur fz, F k → w.heap[k]? ≠ some (.cells cur 39 fz)) : RBusRow w0 w' v L := let ⟨K, hK⟩ := h; ⟨K, hK.keptF hk hn hF⟩
theorem RBusRow.at {w0 w : World} {a : Option Addr} {n c : Nat} {L : List Bus} (h : RBusRow w0 w (.slice a n c) L) {j : Nat} (hj : j < L.length) :
    ∃ (g : Nat) (la : Option Addr) (lc : Nat), a = some ⟨g, 0, none⟩ ∧ g < w.heap.size ∧ w.cell? ⟨g, j * 2, none⟩ = some (.string L[j].name) ∧ w.cell? ⟨g, j * 2 + 1, none⟩ = some (.slice la L[j].lits.length lc) ∧ URow w la L[j].lits.length lc L[j].lits := by
  obtain ⟨K, hK⟩ := h
  obtain ⟨g, cap, e⟩ := own_form hK.own (by omega)
  have ho := hK.own
  rw [e] at ho
  have hl := bvCells_len K
  have hjK : j < K.length := by rw [hK.len]; exact hj
  obtain ⟨e0, e1⟩ := bvCells_at K j K[j] (List.getElem?_eq_getElem hjK)
  obtain ⟨n1, n2⟩ := hK.row j K[j] L[j] (List.getElem?_eq_getElem hjK) (List.getElem?_eq_getElem hj)
  have hn := n2.len
  simp only [Value.slice.injEq] at e
  refine ⟨g, K[j].a, K[j].c, e.1, own_lt ho, ?_, ?_, ?_⟩
  · rw [ho.cellAt _ (by omega), Nat.mul_comm j 2, e0, n1]
  · rw [ho.cellAt _ (by omega), Nat.mul_comm j 2, e1, hn]
  · rw [hn]; exact n2
theorem RBusRow.slice {w0 w : World} {v : Value} {L : List Bus} (h : RBusRow w0 w v L) : ∃ a c, v = .slice a L.length c := by
  obtain ⟨K, hK⟩ := h
  exact own_slice hK.own
theorem RBusRow.type {w0 w : World} {v : Value} {L : List Bus} (h : RBusRow w0 w v L) {k : Nat} (hk : v.ownBlock = some k) : ∃ cur, w.heap[k]? = some (.cells cur 124 (0, 0)) := by
  obtain ⟨K, hK⟩ := h
  exact own_type hK.own hk
def RRegRow (w0 w : World) (v : Value) (R : List Rg) : Prop := w.ownsRow w0.heap.size 117 4 v R.length (rgCells R)
theorem RRegRow.at {w0 w : World} {a : Option Addr} {n c : Nat} {R : List Rg} (h : RRegRow w0 w (.slice a n c) R) {j : Nat} (hj : j < R.length) :
    ∃ g : Nat, a = some ⟨g, 0, none⟩ ∧ g < w.heap.size ∧ w.cell? ⟨g, j * 4, none⟩ = some (.int .u32 R[j].q) ∧ w.cell? ⟨g, j * 4 + 1, none⟩ = some (.int .u32 R[j].d) ∧ w.cell? ⟨g, j * 4 + 2, none⟩ = some (.int .u32 R[j].en) ∧ w.cell? ⟨g, j * 4 + 3, none⟩ = some (.bool R[j].init) := by
  obtain ⟨g, cap, e⟩ := own_form h (by omega)
  unfold RRegRow at h
  rw [e] at h
  have hl := rgCells_len R
  obtain ⟨e0, e1, e2, e3⟩ := rgCells_at R j R[j] (List.getElem?_eq_getElem hj)
  simp only [Value.slice.injEq] at e
  refine ⟨g, e.1, own_lt h, ?_, ?_, ?_, ?_⟩
  · rw [h.cellAt _ (by omega), Nat.mul_comm j 4, e0]
  · rw [h.cellAt _ (by omega), Nat.mul_comm j 4, e1]
  · rw [h.cellAt _ (by omega), Nat.mul_comm j 4, e2]
  · rw [h.cellAt _ (by omega), Nat.mul_comm j 4, e3]

/-- Where the document's netlist lies. -/
structure RPl where
  g : Nat
  c : Nat
  iv : Value
  rv : Value
  ov : Value
def rnBox (Bg : Nat) (s : ByteArray) (p : RPl) : Obj := .cells #[.pointer (some ⟨Bg, 0, none⟩), .string s, p.iv, p.rv, p.ov] 115 (0, 0)
structure RN (w0 w : World) (B Bg : Nat) (p : RPl) (N : Nt) : Prop where
  box : w.heap[B]? = some (rnBox Bg N.name p)
  g : Rf w0 w Bg p.g p.c N.g.fold N.g.hash N.g.nodes
  ins : RBusRow w0 w p.iv N.ins
  regs : RRegRow w0 w p.rv N.regs
  outs : RBusRow w0 w p.ov N.outs
  apart : ∀ k, p.iv.ownBlock = some k → p.ov.ownBlock ≠ some k
  lo : w0.heap.size ≤ B
theorem RN.below {w0 w : World} {B Bg : Nat} {p : RPl} {N : Nt} (h : RN w0 w B Bg p N) : Below w0.heap.size w0 w := h.g.below
theorem RN.lt {w0 w : World} {B Bg : Nat} {p : RPl} {N : Nt} (h : RN w0 w B Bg p N) : B < w.heap.size := (Array.getElem?_eq_some_iff.1 h.box).1
theorem RN.step {w0 w w2 : World} {B Bg : Nat} {p : RPl} {N : Nt} (h : RN w0 w B Bg p N) (hb : Below w.heap.size w w2) : RN w0 w2 B Bg p N :=
  ⟨(hb.block _ h.lt).trans h.box, h.g.step hb, h.ins.below hb, own_below h.regs hb, h.outs.below hb, h.apart, h.lo⟩
/-- The cells of the netlist's own struct. -/
theorem RN.cells {w0 w : World} {B Bg : Nat} {p : RPl} {N : Nt} (h : RN w0 w B Bg p N) :
    ∃ (ia : Option Addr) (ic : Nat) (ra : Option Addr) (rc : Nat) (oa : Option Addr) (oc : Nat), p.iv = .slice ia N.ins.length ic ∧ p.rv = .slice ra N.regs.length rc ∧ p.ov = .slice oa N.outs.length oc ∧
      w.cell? ⟨B, 0, none⟩ = some (.pointer (some ⟨Bg, 0, none⟩)) ∧ w.cell? ⟨B, 1, none⟩ = some (.string N.name) ∧ w.cell? ⟨B, 2, none⟩ = some (.slice ia N.ins.length ic) ∧ w.cell? ⟨B, 3, none⟩ = some (.slice ra N.regs.length rc) ∧ w.cell? ⟨B, 4, none⟩ = some (.slice oa N.outs.length oc)
      ∧ ∀ o, w.frozen? ⟨B, o, none⟩ = false := by
  have hb := h.box
  obtain ⟨ia, ic, e1⟩ := h.ins.slice
  obtain ⟨ra, rc, e2⟩ := own_slice h.regs
  obtain ⟨oa, oc, e3⟩ := h.outs.slice
  refine ⟨ia, ic, ra, rc, oa, oc, e1, e2, e3, ?_, ?_, ?_, ?_, ?_, fun o => ?_⟩ <;> simp [World.cell?, World.frozen?, hb, rnBox, e1, e2, e3]
theorem RN.far {w0 w : World} {B Bg : Nat} {p : RPl} {N : Nt} (h : RN w0 w B Bg p N) : p.iv.ownBlock ≠ some B ∧ p.rv.ownBlock ≠ some B ∧ p.ov.ownBlock ≠ some B := by
  have hb := h.box
  refine ⟨?_, ?_, ?_⟩
  · intro e; obtain ⟨c, hc⟩ := h.ins.type e; rw [hc] at hb; simp [rnBox] at hb
  · intro e; obtain ⟨c, hc⟩ := own_type h.regs e; rw [hc] at hb; simp [rnBox] at hb
  · intro e; obtain ⟨c, hc⟩ := h.outs.type e; rw [hc] at hb; simp [rnBox] at hb
theorem RN.rFar {w0 w : World} {B Bg : Nat} {p : RPl} {N : Nt} (h : RN w0 w B Bg p N) {k : Nat} (hk : p.rv.ownBlock = some k) : p.iv.ownBlock ≠ some k ∧ p.ov.ownBlock ≠ some k := by
  obtain ⟨c, hc⟩ := own_type h.regs hk
  refine ⟨?_, ?_⟩
  · intro e; obtain ⟨d, hd⟩ := h.ins.type e; rw [hc] at hd; simp at hd
  · intro e; obtain ⟨d, hd⟩ := h.outs.type e; rw [hc] at hd; simp at hd
/-- As it was, where what turned is none of the document's. -/
theorem RN.kept {w0 w w2 : World} {B Bg : Nat} {p : RPl} {N : Nt} (h : RN w0 w B Bg p N) {K : Nat → Prop} (hk : Kept K w w2) (hK : ∀ k, K k → w0.heap.size ≤ k) (hT : NoDoc w K) : RN w0 w2 B Bg p N := by
  have nB : ¬ K B := fun hf => (hT _ _ _ _ hf h.box).1 (.inr (.inr (.inl rfl)))
  have nG : ¬ K Bg := fun hf => (hT _ _ _ _ hf h.g.box).1 (.inl rfl)
  have ng : ¬ K p.g := fun hf => by obtain ⟨c, hc⟩ := h.g.gty; exact (hT _ _ _ _ hf hc).1 (.inr (.inl rfl))
  have hU : ∀ k cur fz, K k → w.heap[k]? ≠ some (.cells cur 39 fz) := fun k cur fz hf hh => (hT _ _ _ _ hf hh).2 rfl
  refine ⟨(hk.block _ h.lt nB).trans h.box, h.g.kept hk hK nG ng, h.ins.keptF hk (fun k e hf => ?_) hU, own_keptF h.regs hk (fun k e hf => ?_), h.outs.keptF hk (fun k e hf => ?_) hU, h.apart, h.lo⟩
  · obtain ⟨c, hc⟩ := h.ins.type e; exact (hT _ _ _ _ hf hc).1 (.inr (.inr (.inr (.inl rfl))))
  · obtain ⟨c, hc⟩ := own_type h.regs e; exact (hT _ _ _ _ hf hc).1 (.inr (.inr (.inr (.inr rfl))))
  · obtain ⟨c, hc⟩ := h.outs.type e; exact (hT _ _ _ _ hf hc).1 (.inr (.inr (.inr (.inl rfl))))
/-- What a call of the document's netlist comes to. -/
def RNext (w0 w : World) (B Bg : Nat) (N' : Nt) (w' : World) : Prop := (∃ p', RN w0 w' B Bg p' N') ∧ Kept (DK w) w w'
theorem RNext.of_below {w0 w w' : World} {B Bg : Nat} {p : RPl} {N : Nt} (h : RN w0 w B Bg p N) (hb : Below w.heap.size w w') : RNext w0 w B Bg N w' := ⟨⟨p, h.step hb⟩, DK.of_below hb⟩
theorem RNext.front {w0 w w1 w' : World} {B Bg : Nat} {N' : Nt} (hb : Below w.heap.size w w1) (h : RNext w0 w1 B Bg N' w') : RNext w0 w B Bg N' w' := ⟨h.1, DK.trans (DK.of_below hb) h.2⟩
theorem RNext.then {w0 w w1 w' : World} {B Bg : Nat} {N' : Nt} (h : RNext w0 w B Bg N' w1) (hb : Below w1.heap.size w1 w') : RNext w0 w B Bg N' w' := ⟨let ⟨p, hp⟩ := h.1; ⟨p, hp.step hb⟩, DK.trans h.2 (DK.of_below hb)⟩
/-- The graph grows. -/
theorem RN.grow {w0 w w' : World} {B Bg g c : Nat} {p : RPl} {N : Nt} {G' : Gr} (h : RN w0 w B Bg p N) (hR : Rf w0 w' Bg g c G'.fold G'.hash G'.nodes) (hk : Kept (RK w) w w') : RN w0 w' B Bg { p with g := g, c := c } { N with g := G' } := by
  have n1 : ∀ {k cur T fz}, w.heap[k]? = some (.cells cur T fz) → T ≠ 127 → T ≠ 129 → ¬ RK w k := by
    rintro k cur T fz h1 t1 t2 ⟨cur2, T2, fz2, h2, h3⟩
    rw [h1] at h2; simp at h2
    obtain ⟨-, rfl, -⟩ := h2
    rcases h3 with h3 | h3
    · exact t1 h3
    · exact t2 h3
  have hU : ∀ k cur fz, RK w k → w.heap[k]? ≠ some (.cells cur 39 fz) := fun k cur fz hf hh => n1 hh (by decide) (by decide) hf
  refine ⟨(hk.block _ h.lt (n1 h.box (by decide) (by decide))).trans h.box, hR, h.ins.keptF hk (fun k e => ?_) hU, own_keptF h.regs hk (fun k e => ?_), h.outs.keptF hk (fun k e => ?_) hU, h.apart, h.lo⟩
  · obtain ⟨c, hc⟩ := h.ins.type e; exact n1 hc (by decide) (by decide)
  · obtain ⟨c, hc⟩ := own_type h.regs e; exact n1 hc (by decide) (by decide)
  · obtain ⟨c, hc⟩ := h.outs.type e; exact n1 hc (by decide) (by decide)
theorem RN.growN {w0 w w' : World} {B Bg g c : Nat} {p : RPl} {N : Nt} {G' : Gr} (h : RN w0 w B Bg p N) (hR : Rf w0 w' Bg g c G'.fold G'.hash G'.nodes) (hk : Kept (RK w) w w') : RNext w0 w B Bg { N with g := G' } w' := ⟨⟨_, h.grow hR hk⟩, DK.of_RK hk⟩

/-- A store into the netlist's own box, behind an append to one of its rows. -/
theorem rn_push {w0 wS wa w1 : World} {B Bg : Nat} {p : RPl} {N : Nt} (h : RN w0 wS B Bg p N) (hb : Below wS.heap.size wS wa) {v : Value} (hv : ∀ k, v.ownBlock = some k → w0.heap.size ≤ k ∧ DK wS k)
    (hg : wa.grownBy w1 v.ownBlock) (o : Nat) (x : Value) :
    Kept (fun k => k = B ∨ v.ownBlock = some k) wS (w1.setCell ⟨B, o, none⟩ x) ∧ Kept (DK wS) wS (w1.setCell ⟨B, o, none⟩ x) ∧ Below w0.heap.size w0 (w1.setCell ⟨B, o, none⟩ x) := by
  have hk : Kept (fun k => k = B ∨ v.ownBlock = some k) wS (w1.setCell ⟨B, o, none⟩ x) :=
    ⟨hg.os.trans hb.os, hg.tape.trans hb.tape, hg.output.trans hb.output, by have := hg.size; have := hb.size; simp [World.setCell]; omega, fun k hk hn => by
      have n1 : k ≠ B := fun e => hn (.inl e)
      have n2 : some k ≠ v.ownBlock := fun e => hn (.inr e.symm)
      rw [Below.heap_setCell _ _ _ _ n1, hg.block k (by have := hb.size; omega) n2, hb.block k hk]⟩
  refine ⟨hk, hk.mono (fun k hf => ?_), h.below.trans (hk.below (fun k hf => ?_) h.below.size)⟩
  · rcases hf with rfl | hf
    · exact ⟨_, _, _, h.box, .inr (.inr (.inl rfl))⟩
    · exact (hv k hf).2
  · rcases hf with rfl | hf
    · exact h.lo
    · exact (hv k hf).1
theorem own_moved {w1 : World} {base T size n g cap : Nat} {xs : List Value} {B o : Nat} {x : Value} (h : w1.ownsRow base T size (.slice (some ⟨g, 0, none⟩) n cap) n xs) (hg : g ≠ B) : (w1.setCell ⟨B, o, none⟩ x).ownsRow base T size (.slice (some ⟨g, 0, none⟩) n cap) n xs := by
  refine ⟨h.1, ?_⟩
  rcases h.2 with h0 | ⟨g', cap', cur', hv', hg', hh, r⟩
  · exact .inl h0
  · simp at hv'
    obtain ⟨rfl, rfl⟩ := hv'
    exact .inr ⟨_, _, cur', rfl, hg', by rw [Below.heap_setCell _ _ _ _ hg]; exact hh, r⟩
end Go.Proofs.YtlkainmkhofpaaaGreat
end
