/-
  Package trace: a reader's buses.
-/
import Derived.Test.YtnhpjacodhdpeaaDoorTrJ
namespace Go.Proofs.YtnhpjacodhdpeaaDoor
open Go.RowKit Go.Maps Bits
set_option maxRecDepth 100000

def busC (b : TB) : List Value := [.string b.name, .int .i64 b.width]
def busCs (L : List TB) : List Value := L.flatMap busC
theorem busCs_len (L : List TB) : (busCs L).length = L.length * 2 := by
  induction L with
  | nil => rfl
  | cons k K ih => rw [show busCs (k :: K) = busC k ++ busCs K from rfl, List.length_append, ih]; simp [busC]; omega
theorem busCs_push (L : List TB) (b : TB) : busCs (L ++ [b]) = busCs L ++ busC b := by simp [busCs]
theorem busCs_at (K : List TB) (i : Nat) (h : i < K.length) : (busCs K)[2 * i]? = some (.string (K.getD i tb0).name) ∧ (busCs K)[2 * i + 1]? = some (.int .i64 (K.getD i tb0).width) := by
  induction K generalizing i with
  | nil => simp at h
  | cons m K ih =>
    rw [show busCs (m :: K) = busC m ++ busCs K from rfl]
    match i with
    | 0 => exact ⟨rfl, rfl⟩
    | i + 1 =>
      have := ih i (by simpa using h)
      rw [List.getElem?_append_right (by simp [busC]; omega), List.getElem?_append_right (by simp [busC]; omega)]
      rw [show 2 * (i + 1) - (busC m).length = 2 * i by simp [busC]; omega, show 2 * (i + 1) + 1 - (busC m).length = 2 * i + 1 by simp [busC]; omega]
      simpa [List.getD] using this
theorem BsR.of_own {w : World} {base n cap : Nat} {a : Option Addr} {L : List TB} (h : w.ownsRow base 69 2 (.slice a n cap) n (busCs L)) (hn : L.length = n) (hm : n ≤ 9223372036854775807) : BsR w a n L := by
  refine ⟨hn, hm, ?_⟩
  by_cases h0 : n = 0
  · exact .inl h0
  · right
    obtain ⟨g, c2, e⟩ := own_form h (by omega)
    rw [e] at h
    simp only [Value.slice.injEq] at e
    refine ⟨g, 0, e.1, own_lt h, fun i hi => ?_⟩
    obtain ⟨e0, e1⟩ := busCs_at L i (by omega)
    have hl := busCs_len L
    refine ⟨?_, ?_⟩
    · rw [Nat.zero_add, h.cellAt (j := i * 2) (by omega), Nat.mul_comm i 2, e0]
    · rw [Nat.zero_add, h.cellAt (j := i * 2 + 1) (by omega), Nat.mul_comm i 2, e1]
theorem info_bust : (Tryd.prog.info? 69).map (fun i => (i.zero, i.size, i.bytes)) = some (some (.agg #[.string ByteArray.empty, .int .i64 0]), 2, 24) := by kernel_rfl
theorem news_list (w : World) (cs : List Value) (T : Nat) : ∀ (j : Nat) (u : Value), cs[j]? = some u → (w.alloc (.cells cs.toArray T)).cell? ((⟨w.heap.size, 0, none⟩ : Addr).add j) = some u := by
  intro j u h
  rw [show (⟨w.heap.size, 0, none⟩ : Addr).add j = ⟨w.heap.size, j, none⟩ by simp [Addr.add]; omega]
  rw [World.cell?_alloc_mark]
  simpa using h

/-! ### how much is left -/
theorem numP_ok {base least most : Nat} : ∀ {l : List UInt8} {k n : Nat} {x : Nat × UInt8} {l' : List UInt8}, numP base least most k n l = .ok (x, l') → n ≤ most → (k = 0 ∨ least ≤ n) → l'.length < l.length ∧ x.1 ≤ most ∧ least ≤ x.1 := by
  intro l
  induction l with
  | nil => intro k n x l' h; cases h
  | cons c l ih =>
    intro k n x l' h hn hl
    by_cases hE : (digP c).2 = false ∨ base ≤ (digP c).1
    · rw [numP_end hE] at h
      by_cases hk : 0 < k
      · rw [if_pos hk] at h
        cases h
        exact ⟨by simp, hn, by rcases hl with h0 | h0; omega; exact h0⟩
      · rw [if_neg hk] at h; cases h
    · by_cases h2 : (k = 0 ∨ 0 < n) ∧ ((digP c).1 ≤ most ∧ n ≤ (most - (digP c).1) / base) ∧ least ≤ n * base + (digP c).1
      · rw [numP_go hE h2] at h
        have hz : n * base + (digP c).1 ≤ most := by
          have h3 : n * base ≤ (most - (digP c).1) / base * base := Nat.mul_le_mul_right _ h2.2.1.2
          have h4 := Nat.div_mul_le_self (most - (digP c).1) base
          omega
        have := ih h hz (.inr h2.2.2)
        exact ⟨by simp; omega, this.2⟩
      · rw [numP_no hE h2] at h; cases h
theorem nameP_ok : ∀ {l acc : List UInt8} {nm l' : List UInt8}, nameP acc l = .ok (nm, l') → acc.length ≤ 33 → l'.length < l.length ∧ nm.length ≤ 33 := by
  intro l
  induction l with
  | nil => intro acc nm l' h; cases h
  | cons c l ih =>
    intro acc nm l' h ha
    by_cases hs : spellT c.toNat = true
    · by_cases h33 : acc.length < 33
      · rw [nameP_more hs h33] at h
        have := ih h (by simp; omega)
        exact ⟨by simp; omega, this.2⟩
      · rw [nameP_long hs h33] at h; cases h
    · have hs' : spellT (c.toNat : Int) = false := by simpa using hs
      by_cases hE : c = 58 ∧ 0 < acc.length
      · rw [nameP_end hs' hE] at h; cases h; exact ⟨by simp, ha⟩
      · rw [nameP_no hs' hE] at h; cases h
theorem NS.step {w0 wk w' : World} {r T size n : Nat} {v : Value} {xs : List Value} {l : List UInt8} (h : NS w0 wk r T size v n xs l) (hb : Below wk.heap.size wk w') : NS w0 w' r T size v n xs l := h.next (KR.of_below hb) (h.rd.step hb)
theorem busesP_name {k : Nat} {acc : List TB} {l : List UInt8} {e : Nat} (h : nameP [] l = .error e) : busesP (k + 1) acc l = .error e := by
  simp only [busesP, busP, h]
theorem busesP_at {k : Nat} {acc : List TB} {l nm l1 : List UInt8} (h : nameP [] l = .ok (nm, l1)) (h2 : (atT acc ⟨nm.toArray⟩).isNone = false) : busesP (k + 1) acc l = .error 5 := by
  simp only [busesP, busP, h, h2, if_true]
theorem busesP_num {k : Nat} {acc : List TB} {l nm l1 : List UInt8} {e : Nat} (h : nameP [] l = .ok (nm, l1)) (h2 : (atT acc ⟨nm.toArray⟩).isNone = true) (h3 : numP 10 1 64 0 0 l1 = .error e) : busesP (k + 1) acc l = .error e := by
  simp only [busesP, busP, h, h2, h3]; simp
theorem busesP_sep {k : Nat} {acc : List TB} {l nm l1 l2 : List UInt8} {wd : Nat} {c : UInt8} (h : nameP [] l = .ok (nm, l1)) (h2 : (atT acc ⟨nm.toArray⟩).isNone = true) (h3 : numP 10 1 64 0 0 l1 = .ok ((wd, c), l2)) (h4 : ¬ (c = 32 ∨ c = 10)) : busesP (k + 1) acc l = .error 5 := by
  simp only [busesP, busP, h, h2, h3, if_neg h4]; simp
theorem busesP_ok {k : Nat} {acc : List TB} {l nm l1 l2 : List UInt8} {wd : Nat} {c : UInt8} (h : nameP [] l = .ok (nm, l1)) (h2 : (atT acc ⟨nm.toArray⟩).isNone = true) (h3 : numP 10 1 64 0 0 l1 = .ok ((wd, c), l2)) (h4 : c = 32 ∨ c = 10) :
    busesP (k + 1) acc l = if c = 32 then busesP k (acc ++ [⟨⟨nm.toArray⟩, (wd : Int)⟩]) l2 else .ok (acc ++ [⟨⟨nm.toArray⟩, (wd : Int)⟩], l2) := by
  simp only [busesP, busP, h, h2, h3, if_pos h4]; simp
def BusesV (w0 : World) (L : List TB) (e : Ending) (w' : World) : Prop := ∃ v, e = .returned v ∧ w'.ownsRow w0.heap.size 69 2 v L.length (busCs L)

theorem num10_any {w : World} {r : Nat} {l : List UInt8} (h : Rd w r l) (hlen : l.length ≤ 16777216) :
    Calls Tryd.prog 166 #[.pointer (some ⟨r, 0, none⟩), .int .u64 10, .int .u64 1, .int .u64 64] w fun e w' => PO w r (numP 10 1 64 0 0 l) NumV e w' :=
  number_any h 10 1 64 (by omega) (by omega) (by omega) (by omega) (by omega)
theorem num16_any {w : World} {r : Nat} {l : List UInt8} (h : Rd w r l) (hlen : l.length ≤ 16777216) (top : Nat) (ht : top < 18446744073709551616) :
    Calls Tryd.prog 166 #[.pointer (some ⟨r, 0, none⟩), .int .u64 16, .int .u64 0, .int .u64 top] w fun e w' => PO w r (numP 16 0 top 0 0 l) NumV e w' :=
  number_any h 16 0 top (by omega) (by omega) ht (by omega) (by omega)
set_option maxHeartbeats 8000000 in
theorem rbuses_any {w : World} {r : Nat} {l : List UInt8} (h : Rd w r l) (hll : l.length ≤ 16777216) :
    Calls Tryd.prog 137 #[.pointer (some ⟨r, 0, none⟩)] w fun e w' => PO w r (busesP 512 [] l) (BusesV w) e w' := by
  obtain ⟨i0, hin, hz0, hz1, hz2⟩ := info_parts info_bust
  have hyes := Lib.hid (fun w => must_yes w)
  have hno := Lib.hid (fun w => must_no w)
  have hlo := h.lt
  have H := Lib.hid h
  clear h
  generalize hP : busesP 512 [] l = P
  have hP := Lib.hid hP
  go_enter Tryd.func137, Tryd.ntmps137
  go_wp2
  go_loopw [4, 3] (fun c x wr => ∃ (b : UInt8) (k : Nat) (acc : List TB) (l2 : List UInt8), c = .int .u8 (b.toNat : Int) ∧ Hid (NS w wr r 69 2 x acc.length (busCs acc) l2) ∧ Hid ((if b = 32 then busesP k acc l2 else .ok (acc, l2)) = P) ∧ acc.length + k = 512 ∧ l2.length ≤ 16777216 ∧ lenV x = acc.length) (fun _ x _ => 600 - lenV x)
  case atStart => exact ⟨32, 512, [], l, rfl, Lib.hid ⟨hlo, KR.refl _ _, H.out, ⟨rfl, .inl ⟨rfl, rfl⟩⟩⟩, by rw [if_pos rfl]; exact hP, rfl, hll, rfl⟩
  case round =>
    clear hP H
    obtain ⟨b, k, acc, l2, rfl, hN, hP, hk, hl2, hlv⟩ := hrel
    obtain ⟨a1, c1, rfl⟩ := own_slice hN.out.row
    have hKr := Lib.hid hN.out.kr
    by_cases hb : b = 32
    · rw [if_pos hb] at hP
      subst hb
      have g32 : ((32 : UInt8).toNat : Int) = 32 := by decide
      cases k with
      | zero =>
        have g1 : decide ((acc.length : Int) < 512) = false := by simp; omega
        have rr : Hid (Except.error 5 = P) := hP
        clear hP hN
        generalize acc.length = n at *
        go_wp2_with (first | (go_at_call 138; (with_reducible refine (hyes.out _).mono ?_); rintro e w4 ⟨rfl, rfl⟩) | (go_at_call 138; (with_reducible refine (hno.out _).mono ?_); rintro e w4 ⟨rfl, rfl⟩))
        exact ⟨rfl, PO.bad hKr.out rr.out.symm⟩
      | succ k =>
        have g1 : decide ((acc.length : Int) < 512) = true := by simp; omega
        have hnm := Lib.hid (rname_any hN.out.rd)
        cases hQ : nameP [] l2 with
        | error e =>
          have rr := Lib.hid ((busesP_name (k := k) (acc := acc) hQ).symm.trans hP.out)
          rw [hQ] at hnm
          clear hP hN hQ
          generalize acc.length = n at *
          go_wp2_with (first | (first | (go_at_call 138; (with_reducible refine (hyes.out _).mono ?_); rintro e w4 ⟨rfl, rfl⟩) | (go_at_call 138; (with_reducible refine (hno.out _).mono ?_); rintro e w4 ⟨rfl, rfl⟩)) | (go_at_call 165; (with_reducible refine hnm.out.mono ?_); rintro e2 w5 ⟨hk5, he⟩; obtain rfl : e2 = .panicked (WP e) := he))
          exact ⟨rfl, PO.bad (hKr.out.trans hk5) rr.out.symm⟩
        | ok p =>
          obtain ⟨nm, l3⟩ := p
          rw [hQ] at hnm
          have hl3 := (nameP_ok hQ (by simp)).1
          have hat := Lib.hid (fun (w5 : World) (hN5 : NS w w5 r 69 2 (.slice a1 acc.length c1) acc.length (busCs acc) l3) => at_any (BsR.of_own hN5.row rfl (by omega)) c1 ⟨nm.toArray⟩)
          cases hA : (atT acc ⟨nm.toArray⟩).isNone with
          | false =>
            have rr := Lib.hid ((busesP_at (k := k) hQ hA).symm.trans hP.out)
            have g2 : decide (firstT (atT acc ⟨nm.toArray⟩) < 0) = false := by have := firstT_some hA; simp; omega
            clear hP hQ hA
            generalize firstT (atT acc ⟨nm.toArray⟩) = ft at *
            generalize hnl : acc.length = n at *
            go_wp2_with (first
              | (first | (go_at_call 138; (with_reducible refine (hyes.out _).mono ?_); rintro e w4 ⟨rfl, rfl⟩) | (go_at_call 138; (with_reducible refine (hno.out _).mono ?_); rintro e w4 ⟨rfl, rfl⟩))
              | (go_at_call 165; (with_reducible refine hnm.out.mono ?_); rintro e2 w5 ⟨hk5, hr5, he⟩; obtain rfl : e2 = .returned (.string ⟨nm.toArray⟩) := he; have hN5 := Lib.hid (hN.out.next hk5 hr5); clear hk5 hr5)
              | (go_at_call 46; (with_reducible refine (hat.out _ hN5.out).mono ?_); rintro e2 w6 ⟨rfl, hb6⟩; have hN6 := Lib.hid (hN5.out.step hb6); clear hb6))
            exact ⟨rfl, PO.bad hN6.out.kr rr.out.symm⟩
          | true =>
            have g2 : decide (firstT (atT acc ⟨nm.toArray⟩) < 0) = true := by rw [firstT_none hA]; rfl
            have hnum := Lib.hid (fun (w6 : World) (hN6 : NS w w6 r 69 2 (.slice a1 acc.length c1) acc.length (busCs acc) l3) => num10_any hN6.rd (by omega))
            cases hM : numP 10 1 64 0 0 l3 with
            | error e =>
              have rr := Lib.hid ((busesP_num (k := k) hQ hA hM).symm.trans hP.out)
              rw [hM] at hnum
              clear hP hQ hA hM
              generalize firstT (atT acc ⟨nm.toArray⟩) = ft at *
              generalize hnl : acc.length = n at *
              go_wp2_with (first
                | (first | (go_at_call 138; (with_reducible refine (hyes.out _).mono ?_); rintro e w4 ⟨rfl, rfl⟩) | (go_at_call 138; (with_reducible refine (hno.out _).mono ?_); rintro e w4 ⟨rfl, rfl⟩))
                | (go_at_call 165; (with_reducible refine hnm.out.mono ?_); rintro e2 w5 ⟨hk5, hr5, he⟩; obtain rfl : e2 = .returned (.string ⟨nm.toArray⟩) := he; have hN5 := Lib.hid (hN.out.next hk5 hr5); clear hk5 hr5)
                | (go_at_call 46; (with_reducible refine (hat.out _ hN5.out).mono ?_); rintro e2 w6 ⟨rfl, hb6⟩; have hN6 := Lib.hid (hN5.out.step hb6); clear hb6)
                | (go_at_call 166; (with_reducible refine (hnum.out _ hN6.out).mono ?_); rintro e2 w7 ⟨hk7, he⟩; obtain rfl : e2 = .panicked (WP e) := he))
              exact ⟨rfl, PO.bad (hN6.out.kr.trans hk7) rr.out.symm⟩
            | ok q =>
              obtain ⟨⟨wd, c⟩, l4⟩ := q
              rw [hM] at hnum
              obtain ⟨hl4, hw64, hw1⟩ := numP_ok hM (by omega) (.inl rfl)
              simp only at hw64 hw1
              by_cases hS : ¬ (c = 32 ∨ c = 10)
              · have rr := Lib.hid ((busesP_sep (k := k) hQ hA hM hS).symm.trans hP.out)
                have g3 : ((c.toNat : Int) == 32) = false := by
                  have : c.toNat ≠ 32 := fun e => hS (.inl (UInt8.toNat_inj.1 (by simpa using e)))
                  simp; omega
                have g4 : ((c.toNat : Int) == 10) = false := by
                  have : c.toNat ≠ 10 := fun e => hS (.inr (UInt8.toNat_inj.1 (by simpa using e)))
                  simp; omega
                clear hP hQ hA hM hS
                generalize firstT (atT acc ⟨nm.toArray⟩) = ft at *
                generalize hnl : acc.length = n at *
                generalize hci : (c.toNat : Int) = ci at *
                go_wp2_with (first
                  | (first | (go_at_call 138; (with_reducible refine (hyes.out _).mono ?_); rintro e w4 ⟨rfl, rfl⟩) | (go_at_call 138; (with_reducible refine (hno.out _).mono ?_); rintro e w4 ⟨rfl, rfl⟩))
                  | (go_at_call 165; (with_reducible refine hnm.out.mono ?_); rintro e2 w5 ⟨hk5, hr5, he⟩; obtain rfl : e2 = .returned (.string ⟨nm.toArray⟩) := he; have hN5 := Lib.hid (hN.out.next hk5 hr5); clear hk5 hr5)
                  | (go_at_call 46; (with_reducible refine (hat.out _ hN5.out).mono ?_); rintro e2 w6 ⟨rfl, hb6⟩; have hN6 := Lib.hid (hN5.out.step hb6); clear hb6)
                  | (go_at_call 166; (with_reducible refine (hnum.out _ hN6.out).mono ?_); rintro e2 w7 ⟨hk7, hr7, he⟩; obtain rfl : e2 = .returned (.tuple #[.int .u64 (wd : Int), .int .u8 ci]) := he.trans (by rw [← hci]); have hN7 := Lib.hid (hN6.out.next hk7 hr7); clear hk7 hr7))
                exact ⟨rfl, PO.bad hN7.out.kr rr.out.symm⟩
              · have hS' : c = 32 ∨ c = 10 := Decidable.not_not.1 hS
                have rr := Lib.hid ((busesP_ok (k := k) hQ hA hM hS').symm.trans hP.out)
                have hcv : IntKind.i64.wrap (wd : Int) = wd := IntWalk.i64_in _ (by omega)
                have hl4' : l4.length ≤ 16777216 := by omega
                have hnew : ∀ u : Value, u ∈ [Value.string ⟨nm.toArray⟩, .int .i64 (wd : Int)] → u.oneCell' = true := by
                  intro u hu; simp at hu; rcases hu with rfl | rfl <;> rfl
                have hnew := Lib.hid hnew
                have hpush : Hid (busCs acc ++ [Value.string ⟨nm.toArray⟩, .int .i64 (wd : Int)] = busCs (acc ++ [⟨⟨nm.toArray⟩, (wd : Int)⟩])) := Lib.hid (by show _ = _; rw [busCs_push]; rfl)
                have hpl : Hid ((acc ++ [(⟨⟨nm.toArray⟩, (wd : Int)⟩ : TB)]).length = acc.length + 1) := Lib.hid (by show _ = _; simp)
                clear hP hQ hA hM hS
                generalize (acc ++ [(⟨⟨nm.toArray⟩, (wd : Int)⟩ : TB)]) = acc2 at *
                generalize firstT (atT acc ⟨nm.toArray⟩) = ft at *
                have hnl : ∃ n, n = acc.length := ⟨_, rfl⟩
                generalize acc.length = n at *
                rcases hS' with rfl | rfl
                · rw [if_pos rfl] at rr
                  go_wp2_with (first
                    | (first | (go_at_call 138; (with_reducible refine (hyes.out _).mono ?_); rintro e w4 ⟨rfl, rfl⟩) | (go_at_call 138; (with_reducible refine (hno.out _).mono ?_); rintro e w4 ⟨rfl, rfl⟩))
                    | (go_at_call 165; (with_reducible refine hnm.out.mono ?_); rintro e2 w5 ⟨hk5, hr5, he⟩; obtain rfl : e2 = .returned (.string ⟨nm.toArray⟩) := he; have hN5 := Lib.hid (hN.out.next hk5 hr5); clear hk5 hr5)
                    | (go_at_call 46; (with_reducible refine (hat.out _ hN5.out).mono ?_); rintro e2 w6 ⟨rfl, hb6⟩; have hN6 := Lib.hid (hN5.out.step hb6); clear hb6)
                    | (go_at_call 166; (with_reducible refine (hnum.out _ hN6.out).mono ?_); rintro e2 w7 ⟨hk7, hr7, he⟩; obtain rfl : e2 = .returned (.tuple #[.int .u64 (wd : Int), .int .u8 32]) := he; have hN7 := Lib.hid (hN6.out.next hk7 hr7); clear hk7 hr7)
                    | (at_builtin; refine wpList_append_own _ rfl _ _ 22 rfl w.heap.size 69 i0 (.agg #[.string ByteArray.empty, .int .i64 0]) 2 24 Tryd.underlying22 hin hz0 hz1 hz2 rfl (by decide) _ n (busCs acc) rfl (hN7.out.row.alloc _) ⟨_, 0, none⟩ 1 1 [.string ⟨nm.toArray⟩, .int .i64 (wd : Int)] rfl rfl (news_list _ _ _) (fun u hu => hnew.out u hu) (by unfold maxLen; omega) (by omega) (by have := hN7.out.sz; simp; omega) ?_; intro v8 w8 hown8 hg8 _; rw [hpush.out, ← hpl.out] at hown8; have hN8 := Lib.hid (hN7.out.grown hown8 hg8); clear hown8 hg8))
                  obtain ⟨a8, c8, rfl⟩ := own_slice hN8.out.row
                  refine ⟨⟨32, k, acc2, l4, rfl, hN8, by rw [if_pos rfl]; exact rr, by rw [hpl.out]; omega, hl4', rfl⟩, ?_⟩
                  have hpo := hpl.out
                  simp [lenV, hpo]; omega
                · have rr2 : Hid (Except.ok (acc2, l4) = P) := by rw [if_neg (by decide)] at rr; exact rr
                  clear rr
                  go_wp2_with (first
                    | (first | (go_at_call 138; (with_reducible refine (hyes.out _).mono ?_); rintro e w4 ⟨rfl, rfl⟩) | (go_at_call 138; (with_reducible refine (hno.out _).mono ?_); rintro e w4 ⟨rfl, rfl⟩))
                    | (go_at_call 165; (with_reducible refine hnm.out.mono ?_); rintro e2 w5 ⟨hk5, hr5, he⟩; obtain rfl : e2 = .returned (.string ⟨nm.toArray⟩) := he; have hN5 := Lib.hid (hN.out.next hk5 hr5); clear hk5 hr5)
                    | (go_at_call 46; (with_reducible refine (hat.out _ hN5.out).mono ?_); rintro e2 w6 ⟨rfl, hb6⟩; have hN6 := Lib.hid (hN5.out.step hb6); clear hb6)
                    | (go_at_call 166; (with_reducible refine (hnum.out _ hN6.out).mono ?_); rintro e2 w7 ⟨hk7, hr7, he⟩; obtain rfl : e2 = .returned (.tuple #[.int .u64 (wd : Int), .int .u8 10]) := he; have hN7 := Lib.hid (hN6.out.next hk7 hr7); clear hk7 hr7)
                    | (at_builtin; refine wpList_append_own _ rfl _ _ 22 rfl w.heap.size 69 i0 (.agg #[.string ByteArray.empty, .int .i64 0]) 2 24 Tryd.underlying22 hin hz0 hz1 hz2 rfl (by decide) _ n (busCs acc) rfl (hN7.out.row.alloc _) ⟨_, 0, none⟩ 1 1 [.string ⟨nm.toArray⟩, .int .i64 (wd : Int)] rfl rfl (news_list _ _ _) (fun u hu => hnew.out u hu) (by unfold maxLen; omega) (by omega) (by have := hN7.out.sz; simp; omega) ?_; intro v8 w8 hown8 hg8 _; rw [hpush.out, ← hpl.out] at hown8; have hN8 := Lib.hid (hN7.out.grown hown8 hg8); clear hown8 hg8))
                  obtain ⟨a8, c8, rfl⟩ := own_slice hN8.out.row
                  refine ⟨⟨10, k, acc2, l4, rfl, hN8, by rw [if_neg (by decide)]; exact rr2, by rw [hpl.out]; omega, hl4', rfl⟩, ?_⟩
                  have hpo := hpl.out
                  simp [lenV, hpo]; omega
    · rw [if_neg hb] at hP
      have g3 : ((b.toNat : Int) == 32) = false := by
        have : b.toNat ≠ 32 := fun e => hb (UInt8.toNat_inj.1 (by simpa using e))
        simp; omega
      have hrow := Lib.hid hN.out.row
      have hRd := Lib.hid hN.out.rd
      clear hN hb
      generalize hnl : acc.length = n at *
      go_wp2
      go_ret
      exact PO.good hKr.out hP.out.symm hRd.out ⟨_, rfl, by rw [hnl]; exact hrow.out⟩
end Go.Proofs.YtnhpjacodhdpeaaDoor
