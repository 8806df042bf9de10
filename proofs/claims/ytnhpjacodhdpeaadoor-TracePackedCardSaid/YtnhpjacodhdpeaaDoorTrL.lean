/-
  Package trace: a reader's row.
-/
import Derived.Test.YtnhpjacodhdpeaaDoorTrK
namespace Go.Proofs.YtnhpjacodhdpeaaDoor
open Go.RowKit Go.Maps Bits
set_option maxRecDepth 100000

def padZ (g : List Int) (n : Nat) : List Value := (g ++ List.replicate (n - g.length) 0).map (Value.int .u64)
theorem padZ_set (g : List Int) (n : Nat) (x : Int) (h : g.length < n) : (padZ g n).set g.length (.int .u64 x) = padZ (g ++ [x]) n := by
  unfold padZ
  rw [← List.map_set]
  congr 1
  rw [List.set_append_right _ _ (Nat.le_refl _), Nat.sub_self]
  obtain ⟨m, hm⟩ : ∃ m, n - g.length = m + 1 := ⟨n - g.length - 1, by omega⟩
  rw [hm, List.replicate_succ, List.set_cons_zero, List.length_append, List.length_singleton, show n - (g.length + 1) = m by omega, List.append_assoc]
  rfl
theorem padZ_full (g : List Int) : padZ g g.length = g.map (Value.int .u64) := by simp [padZ]
theorem padZ_made (n : Nat) : (madeCells (Value.int .u64 0).cells (n * 1)).toList = padZ [] n := by
  apply List.ext_getElem
  · simp [madeCells, padZ, Value.cells]
  · intro i h1 h2; simp [madeCells, padZ, Value.cells, Nat.mod_one]
def contP (g : List Int) : Except Nat (List Int × List UInt8) → Except Nat (List Int × List UInt8)
  | .error e => .error e
  | .ok (r, l) => .ok (g ++ r, l)
theorem rowP_num {ts rest : List Nat} {t : Nat} {l : List UInt8} {e : Nat} {g : List Int} (ht : ts = t :: rest) (h : numP 16 0 t 0 0 l = .error e) : contP g (rowP ts l) = .error e := by
  subst ht; simp only [rowP, h]; rfl
theorem rowP_sep {ts rest : List Nat} {t : Nat} {l l2 : List UInt8} {n : Nat} {b : UInt8} {g : List Int} (ht : ts = t :: rest) (h : numP 16 0 t 0 0 l = .ok ((n, b), l2)) (h2 : ¬ (if rest = [] then b = 10 else b = 32)) : contP g (rowP ts l) = .error 5 := by
  subst ht; simp only [rowP, h, if_neg h2]; rfl
theorem rowP_ok {ts rest : List Nat} {t : Nat} {l l2 : List UInt8} {n : Nat} {b : UInt8} {g : List Int} (ht : ts = t :: rest) (h : numP 16 0 t 0 0 l = .ok ((n, b), l2)) (h2 : if rest = [] then b = 10 else b = 32) : contP g (rowP ts l) = contP (g ++ [(n : Int)]) (rowP rest l2) := by
  subst ht; simp only [rowP, h, if_pos h2]
  cases rowP rest l2 with
  | error e => rfl
  | ok p => simp [contP]
def RowV (w0 : World) (g : List Int) (e : Ending) (w' : World) : Prop := ∃ v, e = .returned v ∧ w'.ownsRow w0.heap.size 46 1 v g.length (g.map (Value.int .u64))

set_option maxHeartbeats 8000000 in
theorem rrow_any {w : World} {r : Nat} {l : List UInt8} (h : Rd w r l) (hll : l.length ≤ 16777216) {a : Option Addr} {n : Nat} {T : List Int} (ht : Row .u64 w a n T) (c : Nat) (hn : n ≤ 512) (hne : ∀ b off, a = some ⟨b, off, none⟩ → b ≠ r) (ts : List Nat) (hts : ts.length = n) (hT : ∀ i, i < n → T.getD i 0 = ((ts.getD i 0 : Nat) : Int) ∧ ts.getD i 0 < 18446744073709551616) :
    Calls Tryd.prog 139 #[.pointer (some ⟨r, 0, none⟩), .slice a n c] w fun e w' => PO w r (rowP ts l) (RowV w) e w' := by
  obtain ⟨i0, hin, hz0, hz1, hz2⟩ := info_parts info_u64t
  have hyes := Lib.hid (fun w => must_yes w)
  have hno := Lib.hid (fun w => must_no w)
  have hlo := h.lt
  have H := Lib.hid h
  have HT := Lib.hid hT
  have HR := Lib.hid ht
  have hle := ht.le
  have HNE := Lib.hid hne
  clear h hT ht hne
  generalize hP : rowP ts l = P
  have hP := Lib.hid (show contP [] (rowP ts l) = P by rw [← hP]; cases rowP ts l <;> rfl)
  have HZ := Lib.hid (padZ_made n)
  go_enter Tryd.func139, Tryd.ntmps139
  go_wp2_with (at_make; refine wpList_make_full _ rfl _ _ 37 rfl w.heap.size 46 i0 (.int .u64 0) 1 Tryd.underlying37 hin hz0 hz1 .i64 .i64 n n n rfl rfl rfl rfl (by rw [hz2]; omega) (by unfold maxLen; omega) (Nat.le_refl _) ?_; intro w3 hown hg)
  have hB3 := Lib.hid (show Below w.heap.size w w3 from (Below.refl _ _).grown hg (Nat.le_refl _) (fun _ h => by cases h))
  go_loopw [15] (fun i wr => ∃ (g : List Int) (l2 : List UInt8), g.length ≤ n ∧ i = .int .i64 (g.length : Int) ∧ Hid (NS w wr r 46 1 (.slice (some ⟨w.heap.size, 0, none⟩) n n) n (padZ g n) l2) ∧ Hid (contP g (rowP (ts.drop g.length) l2) = P) ∧ l2.length ≤ 16777216) (fun i _ => n - (intOf i).toNat)
  case atStart => exact ⟨[], l, by simp, rfl, Lib.hid ⟨hlo, KR.of_below hB3.out, H.out.step hB3.out, by rw [← HZ.out]; exact hown⟩, hP, hll⟩
  case round =>
    clear hP H hown hg HZ hB3
    obtain ⟨g, l2, hgl, rfl, hN, hP, hl2⟩ := hrel
    by_cases hlt : g.length < n
    · obtain ⟨b, off, rfl, hb, hcell⟩ := HR.out.at (by omega)
      have c1 := hN.out.kr.cell (HNE.out b off rfl) (hcell _ hlt)
      obtain ⟨e1, e2⟩ := HT.out _ hlt
      rw [e1] at c1
      have hjn : (g.length : Int) < n := by omega
      have hdrop : ts.drop g.length = ts.getD g.length 0 :: ts.drop (g.length + 1) := by
        rw [List.drop_eq_getElem_cons (by omega)]; simp [List.getD, show g.length < ts.length by omega]
      have hrest : ts.drop (g.length + 1) = [] ↔ g.length + 1 = n := by rw [List.drop_eq_nil_iff]; omega
      clear hcell
      generalize ts.getD g.length 0 = t at *
      generalize hrs : ts.drop (g.length + 1) = rest at *
      have hnum := Lib.hid (num16_any hN.out.rd hl2 t e2)
      cases hM : numP 16 0 t 0 0 l2 with
      | error e =>
        have rr := Lib.hid ((rowP_num (g := g) hdrop hM).symm.trans hP.out)
        rw [hM] at hnum
        have hKr := Lib.hid hN.out.kr
        clear hP hM hN hrest hdrop hrs e1
        generalize g.length = k at *
        go_wp2_with (go_at_call 166; (with_reducible refine hnum.out.mono ?_); rintro e2 w7 ⟨hk7, he⟩; obtain rfl : e2 = .panicked (WP e) := he)
        exact ⟨rfl, PO.bad (hKr.out.trans hk7) rr.out.symm⟩
      | ok q =>
        obtain ⟨⟨m, c2⟩, l4⟩ := q
        rw [hM] at hnum
        obtain ⟨hl4, hm, -⟩ := numP_ok hM (by omega) (.inl rfl)
        simp only at hm
        by_cases hS : ¬ (if rest = [] then c2 = 10 else c2 = 32)
        · have rr := Lib.hid ((rowP_sep (g := g) hdrop hM hS).symm.trans hP.out)
          clear hP hM hdrop hrs e1
          by_cases hlast : g.length + 1 = n
          · rw [if_pos (hrest.2 hlast)] at hS
            have g3 : ((c2.toNat : Int) == 10) = false := by
              have : c2.toNat ≠ 10 := fun e => hS (UInt8.toNat_inj.1 (by simpa using e))
              simp; omega
            have g4 : ¬ (g.length : Int) < n - 1 := by omega
            clear hrest hS
            generalize g.length = k at *
            generalize hci : (c2.toNat : Int) = ci at *
            go_wp2_with (first
              | (first | (go_at_call 138; (with_reducible refine (hyes.out _).mono ?_); rintro e w4 ⟨rfl, rfl⟩) | (go_at_call 138; (with_reducible refine (hno.out _).mono ?_); rintro e w4 ⟨rfl, rfl⟩))
              | (go_at_call 166; (with_reducible refine hnum.out.mono ?_); rintro e2 w7 ⟨hk7, hr7, he⟩; obtain rfl : e2 = .returned (.tuple #[.int .u64 (m : Int), .int .u8 ci]) := he.trans (by rw [← hci]); have hN7 := Lib.hid (hN.out.next hk7 hr7); clear hk7 hr7))
            exact ⟨rfl, PO.bad hN7.out.kr rr.out.symm⟩
          · rw [if_neg (fun h => hlast (hrest.1 h))] at hS
            have g3 : ((c2.toNat : Int) == 32) = false := by
              have : c2.toNat ≠ 32 := fun e => hS (UInt8.toNat_inj.1 (by simpa using e))
              simp; omega
            have g4 : (g.length : Int) < n - 1 := by omega
            clear hrest hS
            generalize g.length = k at *
            generalize hci : (c2.toNat : Int) = ci at *
            go_wp2_with (first
              | (first | (go_at_call 138; (with_reducible refine (hyes.out _).mono ?_); rintro e w4 ⟨rfl, rfl⟩) | (go_at_call 138; (with_reducible refine (hno.out _).mono ?_); rintro e w4 ⟨rfl, rfl⟩))
              | (go_at_call 166; (with_reducible refine hnum.out.mono ?_); rintro e2 w7 ⟨hk7, hr7, he⟩; obtain rfl : e2 = .returned (.tuple #[.int .u64 (m : Int), .int .u8 ci]) := he.trans (by rw [← hci]); have hN7 := Lib.hid (hN.out.next hk7 hr7); clear hk7 hr7))
            exact ⟨rfl, PO.bad hN7.out.kr rr.out.symm⟩
        · have hS' := Decidable.not_not.1 hS
          have rr := Lib.hid ((rowP_ok (g := g) hdrop hM hS').symm.trans hP.out)
          rw [← hrs] at rr
          have hgl1 : Hid ((g ++ [(m : Int)]).length = g.length + 1) := Lib.hid (by show _ = _; simp)
          have hput : Hid (∀ w7, NS w w7 r 46 1 (.slice (some ⟨w.heap.size, 0, none⟩) n n) n (padZ g n) l4 → (∃ u, w7.cell? ⟨w.heap.size, g.length, none⟩ = some u) ∧ w7.frozen? ⟨w.heap.size, g.length, none⟩ = false ∧ NS w (w7.setCell ⟨w.heap.size, g.length, none⟩ (.int .u64 (m : Int))) r 46 1 (.slice (some ⟨w.heap.size, 0, none⟩) n n) n (padZ (g ++ [(m : Int)]) n) l4) := Lib.hid (fun w7 h7 => by
            refine ⟨own_some h7.row hlt, h7.row.frozenAt g.length, h7.put ?_ ((Below.refl _ _).setCell (p := ⟨w.heap.size, g.length, none⟩) (Nat.le_refl _) _)⟩
            rw [← padZ_set _ _ _ hlt]
            exact (h7.row.stored g.length _).1)
          clear hP hM hdrop hrs e1 hS
          by_cases hlast : g.length + 1 = n
          · rw [if_pos (hrest.2 hlast)] at hS'
            subst hS'
            have g4 : ¬ (g.length : Int) < n - 1 := by omega
            clear hrest
            go_wp2_with (first
              | (first | (go_at_call 138; (with_reducible refine (hyes.out _).mono ?_); rintro e w4 ⟨rfl, rfl⟩) | (go_at_call 138; (with_reducible refine (hno.out _).mono ?_); rintro e w4 ⟨rfl, rfl⟩))
              | (go_at_call 166; (with_reducible refine hnum.out.mono ?_); rintro e2 w7 ⟨hk7, hr7, he⟩; obtain rfl : e2 = .returned (.tuple #[.int .u64 (m : Int), .int .u8 10]) := he; have hN7 := Lib.hid (hN.out.next hk7 hr7); clear hk7 hr7; have hq := hput.out _ hN7.out; obtain ⟨⟨u, hu⟩, hfz, hN8⟩ := hq; have hN8 := Lib.hid hN8))
            exact ⟨⟨g ++ [(m : Int)], l4, by rw [hgl1.out]; omega, by rw [hgl1.out]; go_num, hN8, by rw [hgl1.out]; exact rr, by omega⟩, by simp [intOf]; omega⟩
          · rw [if_neg (fun h => hlast (hrest.1 h))] at hS'
            subst hS'
            have g4 : (g.length : Int) < n - 1 := by omega
            clear hrest
            go_wp2_with (first
              | (first | (go_at_call 138; (with_reducible refine (hyes.out _).mono ?_); rintro e w4 ⟨rfl, rfl⟩) | (go_at_call 138; (with_reducible refine (hno.out _).mono ?_); rintro e w4 ⟨rfl, rfl⟩))
              | (go_at_call 166; (with_reducible refine hnum.out.mono ?_); rintro e2 w7 ⟨hk7, hr7, he⟩; obtain rfl : e2 = .returned (.tuple #[.int .u64 (m : Int), .int .u8 32]) := he; have hN7 := Lib.hid (hN.out.next hk7 hr7); clear hk7 hr7; have hq := hput.out _ hN7.out; obtain ⟨⟨u, hu⟩, hfz, hN8⟩ := hq; have hN8 := Lib.hid hN8))
            exact ⟨⟨g ++ [(m : Int)], l4, by rw [hgl1.out]; omega, by rw [hgl1.out]; go_num, hN8, by rw [hgl1.out]; exact rr, by omega⟩, by simp [intOf]; omega⟩
    · obtain rfl : n = g.length := by omega
      have rr : Hid (P = .ok (g, l2)) := Lib.hid (by
        rw [← hP.out, List.drop_eq_nil_of_le (by omega)]; simp [rowP, contP])
      have hrow := Lib.hid hN.out.row
      rw [padZ_full] at hrow
      have hKr := Lib.hid hN.out.kr
      have hRd := Lib.hid hN.out.rd
      clear hP hN
      have hgl2 : ∃ k, k = g.length := ⟨_, rfl⟩
      go_wp2
      go_ret
      exact PO.good hKr.out rr.out hRd.out ⟨_, rfl, hrow.out⟩
end Go.Proofs.YtnhpjacodhdpeaaDoor
