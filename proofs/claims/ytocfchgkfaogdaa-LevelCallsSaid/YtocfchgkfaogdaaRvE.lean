/-
  The document's own answers (orreryref07): Reach.
-/
import Derived.Test.YtocfchgkfaogdaaRvR
import Derived.Test.YtocfchgkfaogdaaLrV
namespace Go.Proofs.Ytocfchgkfaogdaa
open Go.RowKit Go.Maps
set_option maxRecDepth 100000

/-- What is reached so far. -/
structure RI (N : List (List Int)) (F : List Int) (R : List Bool) : Prop where
  len : R.length = N.length
  ok : ∀ i, R.getD i false = true → Rc N F i
  from_ : ∀ k : Nat, (k : Int) ∈ F → R.getD k false = true
theorem RI.mark {N : List (List Int)} {F : List Int} {R : List Bool} (h : RI N F R) {i k : Nat} (hi : R.getD i false = true) (hk : k ∈ nd N i) : RI N F (R.set k true) := by
  refine ⟨by simp [h.len], fun j hj => ?_, fun j hj => ?_⟩
  · rw [getDb_set] at hj
    split at hj
    · rename_i e; rw [← e.1]; exact .step (h.ok i hi) hk
    · exact h.ok j hj
  · rw [getDb_set]
    split
    · rfl
    · exact h.from_ j hj
theorem RI.done {N : List (List Int)} {F : List Int} {R : List Bool} (h : RI N F R) (hc : ∀ i, i < N.length → R.getD i false = true → ∀ k ∈ nd N i, R.getD k false = true) : R = rcL N F :=
  RS.done ⟨h.len, h.ok, fun z hz => by simp at hz, fun k hk => .inl (h.from_ k hk), fun i hi k hk => .inl (hc i (by
    by_cases hn : i < N.length
    · exact hn
    · have : R.getD i false = false := by rw [List.getD_eq_getElem?_getD, List.getElem?_eq_none (by rw [h.len]; omega)]; rfl
      rw [this] at hi; cases hi) hi k hk)⟩
theorem RI.start {N : List (List Int)} {F : List Int} {R : List Bool} (hl : R.length = N.length) (hF : ∀ k, k < N.length → (R.getD k false = true ↔ (k : Int) ∈ F)) (hm : ∀ z ∈ F, 0 ≤ z ∧ z < (N.length : Int)) : RI N F R := by
  refine ⟨hl, fun i hi => ?_, fun k hk => ?_⟩
  · by_cases hn : i < N.length
    · exact .base ((hF i hn).1 hi)
    · have : R.getD i false = false := by rw [List.getD_eq_getElem?_getD, List.getElem?_eq_none (by omega)]; rfl
      rw [this] at hi; cases hi
  · have := hm k hk
    exact (hF k (by omega)).2 hk
theorem isT_iff {m : Nat} {x : Int} : isT m x = true ↔ 0 ≤ x ∧ x < (m : Int) := by
  unfold isT
  simp

set_option maxHeartbeats 16000000 in
theorem rReach_any {w : World} {a fa : Option Addr} {n fn : Nat} {N : List (List Int)} {F : List Int} (h : RR w a n N) (hf : Row .i64 w fa fn F) (hn : n ≤ 1000) (hr : ∀ i, (N.getD i []).length ≤ 1000) (c fc : Nat) :
    Calls Try.prog 17 #[.slice a n c, .slice fa fn fc] w fun e w' => ∃ (va : Option Addr) (ca : Nat), e = .returned (.tuple #[.slice va (rchL N F).length ca, .int .i64 (rchE N F)]) ∧
      w'.ownsRow w.heap.size 4 1 (.slice va (rchL N F).length ca) (rchL N F).length (bools (rchL N F)) ∧ Below w.heap.size w w' := by
  have hmay := Lib.hid (rMay_any h c)
  have hl := h.len
  rcases (show mayN N = true ∨ mayN N = false by cases mayN N <;> simp) with hm | hm
  · rw [hm] at hmay
    have hz := Lib.hid (made_false n)
    have H := Lib.hid h
    have HF := Lib.hid hf
    have HM := Lib.hid hm
    have HR := Lib.hid hr
    have hfl := hf.len
    have hfle := hf.le
    obtain ⟨j0, ji, jz0, jz1, jz2⟩ := info_parts info_bool
    clear h hf hm hr
    go_enter Try.func17, Try.ntmps17
    go_wp2_with (first
      | (go_at_call 24; (with_reducible refine hmay.out.mono ?_); rintro e w5 ⟨rfl, hw5⟩; obtain rfl : w = w5 := hw5.symm)
      | (at_make; refine wpList_make_full _ rfl _ _ 33 rfl w.heap.size 4 j0 (.bool false) 1 Try.underlying33 ji jz0 jz1 .i64 .i64 n n n rfl rfl rfl rfl (by rw [jz2]; omega) (by unfold maxLen; omega) (Nat.le_refl _) ?_; intro w6 hown hg; rw [hz.out] at hown; have hAT : Hid (ATB w w6 w.heap.size n (List.replicate n false)) := Lib.hid ⟨(Below.refl w.heap.size w).grown hg (Nat.le_refl _) (fun _ h => (by cases h)), hown, by simp⟩; clear hown hg))
    clear hmay hz
    generalize hgg : w.heap.size = g at hAT ⊢
    go_loopw [7] (fun s wr => ∃ (t : Nat) (R : List Bool), s = .int .i64 t ∧ t ≤ fn ∧ Hid (ATB w wr g n R) ∧ Hid (∀ k, k < n → (R.getD k false = true ↔ (k : Int) ∈ F.take t)) ∧ Hid (∀ z ∈ F.take t, 0 ≤ z ∧ z < (n : Int))) (fun s _ => fn - (RowKit.intOf s).toNat)
    case atStart => exact ⟨0, _, rfl, by omega, hAT, Lib.hid (fun k hk => by
      have : (List.replicate n false).getD k false = false := by rw [List.getD_eq_getElem?_getD, List.getElem?_replicate]; split <;> rfl
      rw [this]; simp), Lib.hid (fun z hz => by simp at hz)⟩
    case round =>
      clear hAT
      obtain ⟨t, R, rfl, ht, hA, hK, hT⟩ := hrel
      by_cases htf : t < fn
      · obtain ⟨fb, fo, rfl, hfb, hfc⟩ := HF.out.at (by omega)
        have c1 := stepc hA.out.low hfb (hfc t htf)
        have htl : t < F.length := by omega
        rw [getD_at htl] at c1
        have hti : (t : Int) < fn := by omega
        have htk : F.take (t + 1) = F.take t ++ [F[t]] := List.take_succ_eq_append_getElem htl
        have hmem := List.getElem_mem htl
        generalize F[t] = z at *
        by_cases hzr : 0 ≤ z ∧ z < (n : Int)
        · obtain ⟨x, rfl⟩ : ∃ x : Nat, z = (x : Int) := ⟨z.toNat, by omega⟩
          have hxn : x < n := by omega
          have hxi : (x : Int) < n := by omega
          have hx0 : decide ((x : Int) < 0) = false := by simp
          have hxm : ¬ n ≤ x := by omega
          have hset := Lib.hid (hA.out.set x true)
          obtain ⟨-, fg⟩ := hA.out.cell hxn
          obtain ⟨cg, -⟩ := hA.out.cell hxn
          have hK2 : Hid (∀ k, k < n → ((R.set x true).getD k false = true ↔ (k : Int) ∈ F.take (t + 1))) := Lib.hid (fun k hk => by
            rw [getDb_set, hA.out.len, htk]
            by_cases e : x = k
            · subst e; rw [if_pos ⟨rfl, hxn⟩]; simp
            · rw [if_neg (fun h => e h.1), hK.out k hk]; simp; omega)
          have hT2 : Hid (∀ z ∈ F.take (t + 1), 0 ≤ z ∧ z < (n : Int)) := Lib.hid (fun z hz => by
            rw [htk] at hz
            rcases List.mem_append.1 hz with hz | hz
            · exact hT.out z hz
            · simp at hz; omega)
          generalize R.getD x false = bx at *
          clear hfc htk hK hT hA hmem
          go_wp2
          exact ⟨⟨t + 1, _, by go_num, by omega, hset, hK2, hT2⟩, by simp [RowKit.intOf]; omega⟩
        · have hE : rchE N F = 1 := by
            unfold rchE
            rw [if_neg]
            rintro ⟨-, h2⟩
            have := List.all_eq_true.1 h2 z hmem
            rw [hl] at this
            exact hzr (isT_iff.1 this)
          have hLz : rchL N F = [] := by unfold rchL; rw [if_neg (by rw [hE]; decide)]
          have hE2 := Lib.hid hE
          have hLz2 := Lib.hid hLz
          have hlow := Lib.hid hA.out.low
          clear hE hLz hfc htk hK hT hA hmem
          by_cases hz0 : z < 0
          · have g1 : decide (z < 0) = true := by simpa using hz0
            go_wp2
            go_ret2
            rw [hE2.out, hLz2.out]
            exact ⟨none, 0, rfl, own_nil _ _ _, by first | exact hlow.out | (have := hlow.out; rw [hgg] at this; exact this)⟩
          · have g1 : decide (z < 0) = false := by simpa using hz0
            have g2 : decide ((n : Int) ≤ z) = true := by simp; omega
            go_wp2
            go_ret2
            rw [hE2.out, hLz2.out]
            exact ⟨none, 0, rfl, own_nil _ _ _, by first | exact hlow.out | (have := hlow.out; rw [hgg] at this; exact this)⟩
      · obtain rfl : t = fn := by omega
        have htk : F.take t = F := by rw [← hfl, List.take_length]
        rw [htk] at hK hT
        have hE : Hid (rchE N F = 0) := Lib.hid (by
          unfold rchE
          rw [if_pos ⟨HM.out, allT_of (fun z hz => by rw [hl]; exact hT.out z hz)⟩])
        have hI0 : Hid (RI N F R) := Lib.hid (RI.start (by rw [hA.out.len, hl]) (fun k hk => hK.out k (by rw [← hl]; exact hk)) (fun z hz => by rw [hl]; exact hT.out z hz))
        have hA0 := hA
        have hu0 : unr R < n + 1 := by have := unr_le R; rw [hA.out.len] at this; omega
        clear hK hT htk hA HF
        go_wp2
        go_loopg [8, 9, 10] (n + 1) (fun u s _ _ wr => ∃ (b : Bool) (R : List Bool), s = .bool b ∧ Hid (ATB w wr g n R) ∧ Hid (RI N F R) ∧ (b = true → unr R < u) ∧ Hid (b = false → ∀ i, i < n → R.getD i false = true → ∀ k ∈ nd N i, R.getD k false = true))
        case atStart => exact ⟨true, R, rfl, hA0, hI0, fun _ => hu0, Lib.hid (fun h => by cases h)⟩
        case round =>
          clear hA0 hI0 hu0
          obtain ⟨b, R, rfl, hA, hI, hu, hC⟩ := hrel
          cases b with
          | false =>
            have hfin := hI.out.done (fun i hi => hC.out rfl i (by rw [← hl]; exact hi))
            have hrow := hA.out.row
            rw [hfin] at hrow
            have hrow2 := Lib.hid hrow
            have hlow := Lib.hid hA.out.low
            have hLz := Lib.hid (show rchL N F = rcL N F by unfold rchL; rw [if_pos hE.out])
            clear hA hI hC hfin hrow hu
            go_wp2
            go_ret2
            rw [hE.out, hLz.out, rcL_len, hl]
            exact ⟨some ⟨g, 0, none⟩, n, rfl, by first | exact hrow2.out | (have := hrow2.out; rw [hgg] at this; exact this), by first | exact hlow.out | (have := hlow.out; rw [hgg] at this; exact this)⟩
          | true =>
            have hu1 := hu rfl
            have hA0 := hA
            have hI0 := hI
            obtain ⟨U0, hU0⟩ : ∃ U0, unr R = U0 := ⟨_, rfl⟩
            have hUg : U0 < gk := by omega
            clear hA hI hC hu hu1
            go_wp2
            go_loopw [8, 9, 10] (fun s t _ wr => ∃ (b : Bool) (i : Nat) (R : List Bool), s = .bool b ∧ t = .int .i64 i ∧ i ≤ n ∧ Hid (ATB w wr g n R) ∧ Hid (RI N F R) ∧ unr R ≤ U0 ∧ (b = true → unr R < U0) ∧ Hid (b = false → ∀ j, j < i → R.getD j false = true → ∀ k ∈ nd N j, R.getD k false = true)) (fun _ t _ _ => n - (RowKit.intOf t).toNat)
            case atStart => exact ⟨false, 0, R, rfl, rfl, by omega, hA0, hI0, by omega, fun h => (by cases h), Lib.hid (fun _ j hj => by omega)⟩
            case round =>
              clear hA0 hI0 hU0
              obtain ⟨b, i, R, rfl, rfl, hin, hA, hI, hu, hub, hC⟩ := hrel
              by_cases hilt : i < n
              · obtain ⟨nb, no, rfl, hnb, hncell⟩ := H.out.at (by omega)
                obtain ⟨ai, ci, c0, q1, q2, hrow⟩ := hncell i hilt
                have hii : (i : Int) < n := by omega
                have hmj : (N.getD i []).length ≤ 1000 := HR.out i
                have hndl := nd_len N i
                have hrow2 := Lib.hid hrow
                have hgt := Lib.hid (fun p hp => may_get HM.out (i := i) (p := p) hp)
                generalize hlen : (N.getD i []).length = len at *
                clear hncell hrow
                go_wp2
                go_loopw [8, 10] (fun s t wr => ∃ (b : Bool) (p : Nat) (R : List Bool), s = .bool b ∧ t = .int .i64 p ∧ p ≤ len ∧ Hid (ATB w wr g n R) ∧ Hid (RI N F R) ∧ unr R ≤ U0 ∧ (b = true → unr R < U0) ∧ Hid (b = false → (∀ j, j < i → R.getD j false = true → ∀ k ∈ nd N j, R.getD k false = true) ∧ (R.getD i false = true → ∀ k ∈ (nd N i).take p, R.getD k false = true))) (fun _ t _ => len - (RowKit.intOf t).toNat)
                case atStart => exact ⟨b, 0, R, rfl, rfl, by omega, hA, hI, hu, hub, Lib.hid (fun hb => ⟨hC.out hb, fun _ k hk => by simp at hk⟩)⟩
                case round =>
                  clear hA hI hu hub hC
                  obtain ⟨b, p, R, rfl, rfl, hp, hA, hI, hu, hub, hC⟩ := hrel
                  have c1 := stepc hA.out.low hnb c0
                  by_cases hpl : p < len
                  · obtain ⟨rb, ro, rfl, hrb, hrc⟩ := hrow2.out.at (by omega)
                    have c2 := stepc hA.out.low hrb (hrc p hpl)
                    obtain ⟨ey, hyn⟩ := hgt.out p (by omega)
                    have hpn : p < (nd N i).length := by omega
                    have htk : (nd N i).take (p + 1) = (nd N i).take p ++ [(nd N i)[p]] := List.take_succ_eq_append_getElem hpn
                    have hmem := List.getElem_mem hpn
                    rw [getN_at hpn] at ey hyn
                    rw [ey] at c2
                    rw [hl] at hyn
                    generalize (nd N i)[p] = k at *
                    obtain ⟨ci1, -⟩ := hA.out.cell hilt
                    obtain ⟨ck, fk⟩ := hA.out.cell hyn
                    have hpi : (p : Int) < len := by omega
                    have hki : (k : Int) < n := by omega
                    clear hrc ey
                    by_cases h1 : R.getD i false = true
                    · by_cases h2 : R.getD k false = true
                      · rw [h1] at ci1
                        rw [h2] at ck
                        have hC2 : Hid (b = false → (∀ j, j < i → R.getD j false = true → ∀ k ∈ nd N j, R.getD k false = true) ∧ (R.getD i false = true → ∀ k ∈ (nd N i).take (p + 1), R.getD k false = true)) := Lib.hid (fun hb => ⟨(hC.out hb).1, fun hi y hy => by
                          rw [htk] at hy
                          rcases List.mem_append.1 hy with hy | hy
                          · exact (hC.out hb).2 hi y hy
                          · simp at hy; subst hy; exact h2⟩)
                        clear hC htk hmem h1 h2
                        go_wp2
                        exact ⟨⟨b, p + 1, R, rfl, by go_num, by omega, hA, hI, hu, hub, hC2⟩, by simp [RowKit.intOf]; omega⟩
                      · have h2' : R.getD k false = false := by cases e : R.getD k false; rfl; exact absurd e h2
                        rw [h1] at ci1
                        rw [h2'] at ck
                        have hset := Lib.hid (hA.out.set k true)
                        have hun := unr_set (x := k) (by rw [hA.out.len]; exact hyn) h2'
                        have hI2 := Lib.hid (hI.out.mark h1 hmem)
                        have hlt : unr (R.set k true) < U0 := by omega
                        clear hC htk hmem h1 h2 h2' hA hI hun hub
                        go_wp2
                        exact ⟨⟨true, p + 1, _, rfl, by go_num, by omega, hset, hI2, by omega, fun _ => hlt, Lib.hid (fun h => by cases h)⟩, by simp [RowKit.intOf]; omega⟩
                    · have h1' : R.getD i false = false := by cases e : R.getD i false; rfl; exact absurd e h1
                      rw [h1'] at ci1
                      have hC2 : Hid (b = false → (∀ j, j < i → R.getD j false = true → ∀ k ∈ nd N j, R.getD k false = true) ∧ (R.getD i false = true → ∀ k ∈ (nd N i).take (p + 1), R.getD k false = true)) := Lib.hid (fun hb => ⟨(hC.out hb).1, fun hi => absurd hi h1⟩)
                      clear hC htk hmem h1 h1'
                      go_wp2
                      exact ⟨⟨b, p + 1, R, rfl, by go_num, by omega, hA, hI, hu, hub, hC2⟩, by simp [RowKit.intOf]; omega⟩
                  · obtain rfl : p = len := by omega
                    have hC2 : Hid (b = false → ∀ j, j < i + 1 → R.getD j false = true → ∀ k ∈ nd N j, R.getD k false = true) := Lib.hid (fun hb j hj hr k hk => by
                      by_cases e : j = i
                      · subst e
                        have := (hC.out hb).2 hr k
                        rw [← hndl, List.take_length] at this
                        exact this hk
                      · exact (hC.out hb).1 j (by omega) hr k hk)
                    clear hC
                    go_wp2
                    exact ⟨⟨b, i + 1, R, rfl, by go_num, by omega, hA, hI, hu, hub, hC2⟩, by simp [RowKit.intOf]; omega⟩
              · obtain rfl : i = n := by omega
                go_wp2
                go_roundg (gk - 1)
                case measure => omega
                case rel => exact ⟨b, R, rfl, hA, hI, fun h => by have := hub h; omega, hC⟩
  · have hE : rchE N F = 1 := by unfold rchE; rw [if_neg]; rintro ⟨h, -⟩; rw [hm] at h; cases h
    have hLz : rchL N F = [] := by unfold rchL; rw [if_neg (by rw [hE]; decide)]
    rw [hE, hLz]
    rw [hm] at hmay
    clear h hf hm hr hE hLz
    go_enter Try.func17, Try.ntmps17
    go_wp2_with (go_at_call 24; (with_reducible refine hmay.out.mono ?_); rintro e w5 ⟨rfl, hw5⟩; obtain rfl : w = w5 := hw5.symm)
    go_ret2
    exact ⟨none, 0, rfl, own_nil _ _ _, Below.refl _ _⟩
end Go.Proofs.Ytocfchgkfaogdaa
