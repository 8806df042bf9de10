/-
  The document's own answers (orreryref07): told.
-/
import Derived.Test.YtocfchgkfaogdaaRvA
namespace Go.Proofs.Ytocfchgkfaogdaa
open Go.RowKit Go.Maps
set_option maxRecDepth 100000

theorem RM.step {w wr wq : World} {gr n : Nat} {R : List Bool} {sv : Value} {S : List Int} (h : RM w wr gr n R sv S) (hb : Below wr.heap.size wr wq) : RM w wq gr n R sv S := ⟨nextw h.low hb, own_below h.row hb, own_below h.stk hb⟩
theorem news1s (w : World) (p : Addr) (b v : Value) (T : Nat) : ∀ (j : Nat) (u : Value), [v][j]? = some u → ((w.setCell p b).alloc (.cells #[v] T)).cell? ((⟨w.heap.size, 0, none⟩ : Addr).add j) = some u := fun j u h => by
  have h1 := news1 (w.setCell p b) v T j u h
  rw [show (w.setCell p b).heap.size = w.heap.size by simp [World.setCell]] at h1
  exact h1
/-- Which are told. -/
def Fl (n : Nat) (T : List Nat) (R : List Bool) : Prop := R.length = n ∧ ∀ i, i < n → (R.getD i false = true ↔ i ∈ T)
theorem Fl.zero (n : Nat) : Fl n [] (List.replicate n false) := ⟨by simp, fun i _ => by
  have : (List.replicate n false).getD i false = false := by rw [List.getD_eq_getElem?_getD, List.getElem?_replicate]; split <;> rfl
  rw [this]; simp⟩
theorem Fl.next {n : Nat} {T : List Nat} {R : List Bool} (h : Fl n T R) {x : Nat} (hx : x < n) : Fl n (T ++ [x]) (R.set x true) := ⟨by simp [h.1], fun i hi => by
  rw [getDb_set, h.1]
  by_cases e : x = i
  · subst e; rw [if_pos ⟨rfl, hx⟩]; simp
  · rw [if_neg (fun h => e h.1), h.2 i hi]; simp; exact fun h => absurd h.symm e⟩
theorem Fl.of {n : Nat} {T : List Nat} {R : List Bool} (h : Fl n T R) {i : Nat} (hi : i < n) : R.getD i false = decide (i ∈ T) := by
  by_cases hm : i ∈ T
  · rw [(h.2 i hi).2 hm]; simp [hm]
  · cases e : R.getD i false
    · simp [hm]
    · exact absurd ((h.2 i hi).1 e) hm

set_option maxHeartbeats 16000000 in
theorem rtold_any {w : World} {a : Option Addr} {n : Nat} {N : List (List Int)} (h : RR w a n N) (hn : n ≤ 1000) (hr : ∀ i, (N.getD i []).length ≤ 1000) (hm : mayN N = true) (c : Nat) :
    Calls Try.prog 32 #[.slice a n c] w fun e w' => ∃ (va : Option Addr) (ca : Nat) (R : List Bool), e = .returned (.tuple #[.slice va (told N).length ca, .slice (some ⟨w.heap.size, 0, none⟩) n n]) ∧
      RM w w' w.heap.size n R (.slice va (told N).length ca) (iz (told N)) ∧ Fl n (told N) R := by
  have hz := Lib.hid (made_false n)
  have hl := h.len
  have H := Lib.hid h
  have HM := Lib.hid hm
  have HR := Lib.hid hr
  obtain ⟨i0, hi, hz0, hz1, hz2⟩ := info_parts info_int
  obtain ⟨j0, ji, jz0, jz1, jz2⟩ := info_parts info_bool
  clear h hm hr
  go_enter Try.func32, Try.ntmps32
  go_wp2_with (at_make; refine wpList_make_full _ rfl _ _ 33 rfl w.heap.size 4 j0 (.bool false) 1 Try.underlying33 ji jz0 jz1 .i64 .i64 n n n rfl rfl rfl rfl (by rw [jz2]; omega) (by unfold maxLen; omega) (Nat.le_refl _) ?_; intro w6 hown hg; rw [hz.out] at hown; have hRM : Hid (RM w w6 w.heap.size n (List.replicate n false) (.slice none 0 0) (iz [])) := Lib.hid ⟨(Below.refl w.heap.size w).grown hg (Nat.le_refl _) (fun _ h => (by cases h)), hown, own_nil _ _ _⟩; clear hown hg)
  go_loopg [4, 6, 7, 8, 9] n (fun g s _ _ _ _ wr => ∃ (T : List Nat) (m : Nat) (R : List Bool) (sa : Option Addr) (sc : Nat), s = .slice sa m sc ∧ T.length = m ∧ Hid (RM w wr w.heap.size n R (.slice sa m sc) (iz T)) ∧ Hid (Fl n T R) ∧ Hid (Tld N T) ∧ m + g = n)
  case atStart => exact ⟨[], 0, _, none, 0, rfl, rfl, hRM, Lib.hid (Fl.zero n), Lib.hid (Tld.nil N), by omega⟩
  case round =>
    clear hRM
    obtain ⟨T, m, R, sa, sc, rfl, hTm, hRM, hF, hT, hg⟩ := hrel
    go_wp2
    go_loopw [6, 7, 8, 9] (fun s t _ _ wq => wq = wr ∧ ∃ (nx : Int) (i : Nat), s = .int .i64 nx ∧ t = .int .i64 i ∧ i ≤ n ∧ ((nx = -1 ∧ Hid (∀ j, j < i → free N T j = false)) ∨ ∃ x : Nat, nx = (x : Int) ∧ Hid (nxt N T = some x))) (fun _ t _ _ _ => n - (RowKit.intOf t).toNat)
    case atStart => exact ⟨rfl, -1, 0, rfl, rfl, by omega, .inl ⟨rfl, Lib.hid (fun j hj => by omega)⟩⟩
    case round =>
      obtain ⟨rfl, nx, i, rfl, rfl, hin, hc⟩ := hrel
      rcases hc with ⟨rfl, hK⟩ | ⟨x, rfl, hx⟩
      · by_cases hlt : i < n
        · have hii : (i : Int) < n := by omega
          obtain ⟨b, off, rfl, hb, hcell⟩ := H.out.at (by omega)
          obtain ⟨ai, ci, c1, q1, q2, hrow⟩ := hcell i hlt
          have c1r := stepc hRM.out.low hb c1
          have hmj : (N.getD i []).length ≤ 1000 := HR.out i
          have hndl := nd_len N i
          obtain ⟨cb, -⟩ := hRM.out.cell hF.out.1 hlt
          rw [hF.out.of hlt] at cb
          have hrow2 := Lib.hid hrow
          generalize hlen : (N.getD i []).length = len at *
          have hK2 := Lib.hid (fun (h : free N T i = false) => (show ∀ j, j < i + 1 → free N T j = false from fun j hj => by
            by_cases e : j = i
            · rw [e]; exact h
            · exact hK.out j (by omega)))
          have hK3 := Lib.hid (fun (h : free N T i = true) => nxt_of (by omega) h hK.out)
          clear hcell c1 hrow hK
          by_cases hiT : i ∈ T
          · have e1 : decide (i ∈ T) = true := by simpa using hiT
            rw [e1] at cb
            have r := Lib.hid (hK2.out (by simp [free, hiT]))
            clear hK2 hK3 e1 hiT
            go_wp2
            exact ⟨⟨trivial, -1, i + 1, rfl, by go_num, by omega, .inl ⟨rfl, r⟩⟩, by simp [RowKit.intOf]; omega⟩
          · have e1 : decide (i ∈ T) = false := by simpa using hiT
            rw [e1] at cb
            have hiT := Lib.hid hiT
            clear e1
            go_wp2
            go_loopw [8, 9] (fun s t wq => wq = wr ∧ ∃ (b : Bool) (p : Nat), s = .bool b ∧ t = .int .i64 p ∧ p ≤ len ∧ Hid (b = true ↔ ∀ k ∈ (nd N i).take p, k ∈ T)) (fun _ t _ => len - (RowKit.intOf t).toNat)
            case atStart => exact ⟨rfl, true, 0, rfl, rfl, by omega, Lib.hid (by simp)⟩
            case round =>
              obtain ⟨rfl, bb, p, rfl, rfl, hp, hbb⟩ := hrel
              by_cases hpl : p < len
              · obtain ⟨rb, ro, rfl, hrb, hrc⟩ := hrow2.out.at (by omega)
                have c2 := stepc hRM.out.low hrb (hrc p hpl)
                obtain ⟨ey, hyn⟩ := may_get HM.out (i := i) (p := p) (by omega)
                have hpn : p < (nd N i).length := by omega
                have htk : (nd N i).take (p + 1) = (nd N i).take p ++ [(nd N i)[p]] := List.take_succ_eq_append_getElem hpn
                rw [getN_at hpn] at ey hyn
                rw [ey] at c2
                rw [hl] at hyn
                generalize (nd N i)[p] = k at *
                obtain ⟨ck, -⟩ := hRM.out.cell hF.out.1 hyn
                rw [hF.out.of hyn] at ck
                have hpi : (p : Int) < len := by omega
                have hki : (k : Int) < n := by omega
                have htk := Lib.hid htk
                clear hrc ey
                by_cases hkT : k ∈ T
                · have e1 : decide (k ∈ T) = true := by simpa using hkT
                  rw [e1] at ck
                  have r : Hid (bb = true ↔ ∀ y ∈ (nd N i).take (p + 1), y ∈ T) := Lib.hid (by
                    rw [hbb.out, htk.out]
                    constructor
                    · intro h y hy
                      rcases List.mem_append.1 hy with hy | hy
                      · exact h y hy
                      · simp at hy; subst hy; exact hkT
                    · intro h y hy; exact h y (List.mem_append_left _ hy))
                  clear hbb e1 hkT htk
                  go_wp2
                  exact ⟨⟨trivial, bb, p + 1, rfl, by go_num, by omega, r⟩, by simp [RowKit.intOf]; omega⟩
                · have e1 : decide (k ∈ T) = false := by simpa using hkT
                  rw [e1] at ck
                  have r : Hid (false = true ↔ ∀ y ∈ (nd N i).take (p + 1), y ∈ T) := Lib.hid (by
                    rw [htk.out]
                    constructor
                    · intro h; cases h
                    · intro h; exact absurd (h k (by simp)) hkT)
                  clear hbb e1 hkT htk
                  go_wp2
                  exact ⟨⟨trivial, false, p + 1, rfl, by go_num, by omega, r⟩, by simp [RowKit.intOf]; omega⟩
              · obtain rfl : p = len := by omega
                have hb2 := hbb.out
                rw [← hndl, List.take_length] at hb2
                cases bb with
                | true =>
                  have r := Lib.hid (hK3.out (free_iff.2 ⟨hiT.out, hb2.1 rfl⟩))
                  clear hbb hb2 hK2 hK3 hiT
                  go_wp2
                  exact ⟨⟨trivial, i, i + 1, rfl, by go_num, by omega, .inr ⟨i, rfl, r⟩⟩, by simp [RowKit.intOf]; omega⟩
                | false =>
                  have r := Lib.hid (hK2.out (by
                    cases e : free N T i
                    · rfl
                    · exact absurd (hb2.2 (free_iff.1 e).2) (by decide)))
                  clear hbb hb2 hK2 hK3 hiT
                  go_wp2
                  exact ⟨⟨trivial, -1, i + 1, rfl, by go_num, by omega, .inl ⟨rfl, r⟩⟩, by simp [RowKit.intOf]; omega⟩
        · obtain rfl : i = n := by omega
          have hnone := nxt_none.2 (fun j hj => hK.out j (by rw [← hl]; exact hj))
          have hfin := hT.out.all hnone
          have htl : (told N).length = m := by rw [hfin]; exact hTm
          have hF2 := hF.out
          have hR2 := hRM.out
          rw [← hfin] at hF2 hR2
          have hF3 := Lib.hid hF2
          have hR3 := Lib.hid hR2
          clear hF hRM hF2 hR2 hK hnone hfin
          go_wp2
          go_ret2
          rw [htl]
          exact ⟨sa, sc, R, rfl, hR3.out, hF3.out⟩
      · have hnx := hT.out.next hx.out
        obtain ⟨hxl, hxf, -⟩ := nxt_some hx.out
        rw [hl] at hxl
        have hmn : m < n := by have := hnx.len; rw [List.length_append, hl, hTm] at this; simp at this; omega
        have hx0 : decide ((x : Int) < 0) = false := by simp
        have hxi : (x : Int) < n := by omega
        have hmk := Lib.hid (hRM.out.mark x)
        obtain ⟨-, fb⟩ := hRM.out.cell hF.out.1 hxl
        obtain ⟨cb, -⟩ := hRM.out.cell hF.out.1 hxl
        have hF2 := Lib.hid (hF.out.next hxl)
        have hT2 := Lib.hid hnx
        have hsk := hmk.out.stk
        rw [iz_len, hTm] at hsk
        have hsk := Lib.hid hsk
        have hal := Lib.hid (hmk.out.step ((Below.refl _ _).alloc (Nat.le_refl _) (.cells #[.int .i64 (x : Int)] 3)))
        have hiz : Hid (ints (iz T) ++ [.int .i64 (x : Int)] = ints (iz T) ++ ints [(x : Int)]) := Lib.hid (by simp [ints])
        have hTm2 : (iz T).length = m := by rw [iz_len, hTm]
        have hls := hmk.out.low.size
        have hls2 := hRM.out.low.size
        generalize R.getD x false = bx at *
        clear hF hT hRM hmk hnx hxf hx
        by_cases hin2 : i < n
        · have hii : (i : Int) < n := by omega
          go_wp2_with (at_builtin; refine wpList_append_lies _ rfl _ _ 23 rfl w.heap.size 3 i0 (.int .i64 0) 1 8 Try.underlying23 hi hz0 hz1 hz2 rfl (by decide) (.slice sa m sc) m _ rfl (hsk.out.alloc _) ⟨_, 0, none⟩ 1 1 [.int .i64 (x : Int)] rfl rfl (news1s _ _ _ _ _) (by simp [Value.oneCell']) (by decide) (by unfold maxLen; omega) (by omega) (by simp; omega) _ rfl ?_; intro g1 cap1 w8 hown8 hgrow8 hat8 hlt8)
          go_roundg (gk - 1)
          case measure => omega
          case rel => exact ⟨T ++ [x], m + 1, _, some ⟨g1, 0, none⟩, cap1, rfl, by simp [hTm], Lib.hid (by
            have hr := hal.out.app (v2 := .slice (some ⟨g1, 0, none⟩) (m + 1) cap1) (l := [(x : Int)]) (n2 := 1) hTm2 rfl (by rw [← hiz.out]; exact hown8) hgrow8
            simpa [iz] using hr), hF2, hT2, by omega⟩
        · have hii : ¬ (i : Int) < n := by omega
          go_wp2_with (at_builtin; refine wpList_append_lies _ rfl _ _ 23 rfl w.heap.size 3 i0 (.int .i64 0) 1 8 Try.underlying23 hi hz0 hz1 hz2 rfl (by decide) (.slice sa m sc) m _ rfl (hsk.out.alloc _) ⟨_, 0, none⟩ 1 1 [.int .i64 (x : Int)] rfl rfl (news1s _ _ _ _ _) (by simp [Value.oneCell']) (by decide) (by unfold maxLen; omega) (by omega) (by simp; omega) _ rfl ?_; intro g1 cap1 w8 hown8 hgrow8 hat8 hlt8)
          go_roundg (gk - 1)
          case measure => omega
          case rel => exact ⟨T ++ [x], m + 1, _, some ⟨g1, 0, none⟩, cap1, rfl, by simp [hTm], Lib.hid (by
            have hr := hal.out.app (v2 := .slice (some ⟨g1, 0, none⟩) (m + 1) cap1) (l := [(x : Int)]) (n2 := 1) hTm2 rfl (by rw [← hiz.out]; exact hown8) hgrow8
            simpa [iz] using hr), hF2, hT2, by omega⟩
end Go.Proofs.Ytocfchgkfaogdaa
