/-
  Package trace: a reader's name.
-/
import Derived.Test.YtnhpjacodhdpeaaDoorTrI
namespace Go.Proofs.YtnhpjacodhdpeaaDoor
open Go.RowKit Go.Maps Bits
set_option maxRecDepth 100000

def lenV : Value → Nat
  | .slice _ n _ => n
  | _ => 0
/-- A reader, and a row of the call's own. -/
structure NS (w0 wk : World) (r T size : Nat) (v : Value) (n : Nat) (xs : List Value) (l : List UInt8) : Prop where
  lo : r < w0.heap.size
  kr : KR r w0 wk
  rd : Rd wk r l
  row : wk.ownsRow w0.heap.size T size v n xs
section
variable {w0 wk w' : World} {r T size n n' : Nat} {v v' : Value} {xs xs' : List Value} {l l' : List UInt8}
theorem NS.sz (h : NS w0 wk r T size v n xs l) : w0.heap.size ≤ wk.heap.size := h.kr.size
theorem NS.next (h : NS w0 wk r T size v n xs l) (hk : KR r wk w') (hr : Rd w' r l') : NS w0 w' r T size v n xs l' :=
  ⟨h.lo, h.kr.trans hk, hr, own_keptF h.row hk (fun k e hk => by have := (h.row.lt k e).1; have := h.lo; omega)⟩
theorem Rd.kept {w w' : World} {r : Nat} {l : List UInt8} (h : Rd w r l) (hb : Below (r + 1) w w') : Rd w' r l := by
  obtain ⟨a, c, h1, h2, h3, h4⟩ := h.ex
  refine ⟨a, c, (hb.block r (by omega)).trans h1, h2, h3, ?_⟩
  rcases h4 with h4 | ⟨b, off, e, hlt, hc⟩
  · exact .inl h4
  · exact .inr ⟨b, off, e, hlt, fun i hi => by rw [hb.cell (p := ⟨b, off + i, none⟩) (by show b < r + 1; omega)]; exact hc i hi⟩
theorem NS.put (h : NS w0 wk r T size v n xs l) (h1 : w'.ownsRow w0.heap.size T size v' n' xs') (hb : Below w0.heap.size wk w') : NS w0 w' r T size v' n' xs' l :=
  ⟨h.lo, ⟨hb.os.trans h.kr.os, hb.tape.trans h.kr.tape, hb.output.trans h.kr.output, Nat.le_trans h.kr.size hb.size, fun k hk hn => (hb.block k hk).trans (h.kr.block k hk hn)⟩, h.rd.kept (hb.mono (by have := h.lo; omega)), h1⟩
theorem NS.grown (h : NS w0 wk r T size v n xs l) {o : Obj} (h1 : w'.ownsRow w0.heap.size T size v' n' xs') (h2 : (wk.alloc o).grownBy w' v.ownBlock) : NS w0 w' r T size v' n' xs' l :=
  h.put h1 (((Below.refl _ _).alloc h.sz o).grown h2 (by have := h.sz; simp; omega) (fun k hk => (h.row.lt k hk).1))
end
theorem bytes_str {w : World} {base g cap : Nat} {t : List UInt8} (h : TX w base (.slice (some ⟨g, 0, none⟩) t.length cap) t) : (convert 31 9 (.slice (some ⟨g, 0, none⟩) t.length cap)).run Tryd.prog w = .ok (.string ⟨t.toArray⟩) w := by
  refine run_convert_bytes_back w _ _ 5 _ cap t Tryd.underlying31 Tryd.underlying5 Tryd.underlying9 (fun j hj => ?_)
  have ho : w.ownsRow base 5 1 (.slice (some ⟨g, 0, none⟩) t.length cap) t.length (bys t) := h
  rw [show (⟨g, 0, none⟩ : Addr).add j = ⟨g, j, none⟩ by simp [Addr.add]; omega, ho.cellAt (j := j) (by omega)]
  simp [bys, hj]
def NameV (nm : List UInt8) (e : Ending) (_ : World) : Prop := e = .returned (.string ⟨nm.toArray⟩)
theorem nameP_nil (acc : List UInt8) : nameP acc [] = .error 4 := rfl
theorem nameP_more {acc : List UInt8} {c : UInt8} {l : List UInt8} (h : spellT c.toNat = true) (h2 : acc.length < 33) : nameP acc (c :: l) = nameP (acc ++ [c]) l := by rw [nameP, if_pos h, if_pos h2]
theorem nameP_long {acc : List UInt8} {c : UInt8} {l : List UInt8} (h : spellT c.toNat = true) (h2 : ¬ acc.length < 33) : nameP acc (c :: l) = .error 5 := by rw [nameP, if_pos h, if_neg h2]
theorem nameP_end {acc : List UInt8} {c : UInt8} {l : List UInt8} (h : spellT c.toNat = false) (h2 : c = 58 ∧ 0 < acc.length) : nameP acc (c :: l) = .ok (acc, l) := by rw [nameP, if_neg (by simp [h]), if_pos h2]
theorem nameP_no {acc : List UInt8} {c : UInt8} {l : List UInt8} (h : spellT c.toNat = false) (h2 : ¬ (c = 58 ∧ 0 < acc.length)) : nameP acc (c :: l) = .error 5 := by rw [nameP, if_neg (by simp [h]), if_neg h2]

set_option maxHeartbeats 8000000 in
theorem rname_any {w : World} {r : Nat} {l : List UInt8} (h : Rd w r l) :
    Calls Tryd.prog 165 #[.pointer (some ⟨r, 0, none⟩)] w fun e w' => PO w r (nameP [] l) NameV e w' := by
  obtain ⟨i0, hin, hz0, hz1, hz2⟩ := info_parts info_u8t
  have hyes := Lib.hid (fun w => must_yes w)
  have hno := Lib.hid (fun w => must_no w)
  have hsp := Lib.hid (fun c w => spell_any c w)
  have hnx0 := Lib.hid (next_any h)
  have hlo := h.lt
  clear h
  cases l with
  | nil =>
    go_enter Tryd.func165, Tryd.ntmps165
    go_wp2_with (go_at_call 174; (with_reducible refine hnx0.out.mono ?_); rintro e w2 ⟨hk2, he⟩; obtain rfl : e = .panicked (WP 4) := he)
    exact ⟨rfl, PO.bad hk2 rfl⟩
  | cons c0 l0 =>
    generalize hP : nameP [] (c0 :: l0) = P
    have hP := Lib.hid hP
    go_enter Tryd.func165, Tryd.ntmps165
    go_wp2_with (go_at_call 174; (with_reducible refine hnx0.out.mono ?_); rintro e w2 ⟨hk2, hr2, he⟩; obtain rfl : e = .returned (.int .u8 (c0.toNat : Int)) := he; have hK2 := Lib.hid hk2; have hR2 := Lib.hid hr2; clear hk2 hr2)
    go_loopw [4, 3] (fun c x wr => ∃ (b : UInt8) (acc l2 : List UInt8), c = .int .u8 (b.toNat : Int) ∧ Hid (NS w wr r 5 1 x acc.length (bys acc) l2) ∧ Hid (nameP acc (b :: l2) = P) ∧ acc.length ≤ 33 ∧ lenV x = acc.length) (fun _ x _ => 40 - lenV x)
    case atStart => exact ⟨c0, [], l0, rfl, Lib.hid ⟨hlo, hK2.out, hR2.out, ⟨rfl, .inl ⟨rfl, rfl⟩⟩⟩, hP, by simp, rfl⟩
    case round =>
      clear hP hK2 hR2 hnx0
      obtain ⟨b, acc, l2, rfl, hN, hP, hacc, hlv⟩ := hrel
      have hspb := Lib.hid (hsp.out (b.toNat : Int))
      by_cases hb : spellT (b.toNat : Int) = true
      · rw [hb] at hspb
        by_cases h33 : acc.length < 33
        · obtain ⟨a1, c1, rfl⟩ := own_slice hN.out.row
          have g1 : decide ((acc.length : Int) < 33) = true := by simp; omega
          have hP2 := Lib.hid ((nameP_more (l := l2) hb h33).symm.trans hP.out)
          have la : (acc ++ [b]).length = acc.length + 1 := by simp
          have hrow : Hid (wr.ownsRow w.heap.size 5 1 (.slice a1 acc.length c1) acc.length (bys acc)) := Lib.hid hN.out.row
          have hsz := hN.out.sz
          clear hP
          cases l2 with
          | nil =>
            have r := Lib.hid ((nameP_nil (acc ++ [b])).symm.trans hP2.out)
            go_wp2_with (first
              | (go_at_call 135; (with_reducible refine (hspb.out _).mono ?_); rintro e w4 ⟨rfl, rfl⟩)
              | (first | (go_at_call 138; (with_reducible refine (hyes.out _).mono ?_); rintro e w4 ⟨rfl, rfl⟩) | (go_at_call 138; (with_reducible refine (hno.out _).mono ?_); rintro e w4 ⟨rfl, rfl⟩))
              | (at_builtin; refine wpList_append_own _ rfl _ _ 31 rfl w.heap.size 5 i0 (.int .u8 0) 1 1 Tryd.underlying31 hin hz0 hz1 hz2 rfl (by decide) _ acc.length (bys acc) rfl (hrow.out.alloc _) ⟨_, 0, none⟩ 1 1 [.int .u8 (b.toNat : Int)] rfl rfl (news1 _ _ _) (one_byte _) (by unfold maxLen; omega) (by omega) (by simp; omega) ?_; intro v8 w8 hown8 hg8 _; have hN8 := Lib.hid (hN.out.grown hown8 hg8); have hn8 := Lib.hid (next_any hN8.out.rd); clear hown8 hg8)
              | (go_at_call 174; (with_reducible refine hn8.out.mono ?_); rintro e w9 ⟨hk9, he⟩; obtain rfl : e = .panicked (WP 4) := he))
            exact ⟨rfl, PO.bad (hN8.out.kr.trans hk9) r.out.symm⟩
          | cons c2 l2 =>
            go_wp2_with (first
              | (go_at_call 135; (with_reducible refine (hspb.out _).mono ?_); rintro e w4 ⟨rfl, rfl⟩)
              | (first | (go_at_call 138; (with_reducible refine (hyes.out _).mono ?_); rintro e w4 ⟨rfl, rfl⟩) | (go_at_call 138; (with_reducible refine (hno.out _).mono ?_); rintro e w4 ⟨rfl, rfl⟩))
              | (at_builtin; refine wpList_append_own _ rfl _ _ 31 rfl w.heap.size 5 i0 (.int .u8 0) 1 1 Tryd.underlying31 hin hz0 hz1 hz2 rfl (by decide) _ acc.length (bys acc) rfl (hrow.out.alloc _) ⟨_, 0, none⟩ 1 1 [.int .u8 (b.toNat : Int)] rfl rfl (news1 _ _ _) (one_byte _) (by unfold maxLen; omega) (by omega) (by simp; omega) ?_; intro v8 w8 hown8 hg8 _; have hN8 := Lib.hid (hN.out.grown hown8 hg8); have hn8 := Lib.hid (next_any hN8.out.rd); clear hown8 hg8)
              | (go_at_call 174; (with_reducible refine hn8.out.mono ?_); rintro e w9 ⟨hk9, hr9, he⟩; obtain rfl : e = .returned (.int .u8 (c2.toNat : Int)) := he; have hN9 := Lib.hid (hN8.out.next hk9 hr9); clear hk9 hr9))
            obtain ⟨a8, c8, rfl⟩ := own_slice hN9.out.row
            refine ⟨⟨c2, acc ++ [b], l2, rfl, Lib.hid ?_, hP2, by omega, by rw [la]; rfl⟩, ?_⟩
            · rw [la, bys_app]; exact hN9.out
            · simp [lenV]; omega
        · have r := Lib.hid ((nameP_long (l := l2) hb h33).symm.trans hP.out)
          obtain ⟨a1, c1, rfl⟩ := own_slice hN.out.row
          have g1 : decide ((acc.length : Int) < 33) = false := by simp; omega
          have hKr := Lib.hid hN.out.kr
          clear hP hN
          generalize acc.length = n at *
          go_wp2_with (first | (go_at_call 135; (with_reducible refine (hspb.out _).mono ?_); rintro e w4 ⟨rfl, rfl⟩) | (first | (go_at_call 138; (with_reducible refine (hyes.out _).mono ?_); rintro e w4 ⟨rfl, rfl⟩) | (go_at_call 138; (with_reducible refine (hno.out _).mono ?_); rintro e w4 ⟨rfl, rfl⟩)))
          exact ⟨rfl, PO.bad hKr.out r.out.symm⟩
      · have hb' : spellT (b.toNat : Int) = false := by simpa using hb
        rw [hb'] at hspb
        obtain ⟨a1, c1, rfl⟩ := own_slice hN.out.row
        have hKr := Lib.hid hN.out.kr
        have hRd := Lib.hid hN.out.rd
        by_cases hE : b = 58 ∧ 0 < acc.length
        · have r := Lib.hid ((nameP_end (l := l2) hb' hE).symm.trans hP.out)
          obtain ⟨rfl, hpos⟩ := hE
          obtain ⟨g, cap, hv⟩ := own_form hN.out.row hpos
          simp only [Value.slice.injEq] at hv
          obtain ⟨rfl, -, rfl⟩ := hv
          have hcv := bytes_str (show TX wr w.heap.size (.slice (some ⟨g, 0, none⟩) acc.length c1) acc from hN.out.row)
          have g1 : (0 : Int) < acc.length := by omega
          have g2 : decide ((0 : Int) < acc.length) = true := by simpa using hpos
          have g3 : ((58 : UInt8).toNat : Int) = 58 := by decide
          rw [g3] at hspb
          clear hP hN hb hb'
          go_wp2_with (first | (go_at_call 135; (with_reducible refine (hspb.out _).mono ?_); rintro e w4 ⟨rfl, rfl⟩) | (first | (go_at_call 138; (with_reducible refine (hyes.out _).mono ?_); rintro e w4 ⟨rfl, rfl⟩) | (go_at_call 138; (with_reducible refine (hno.out _).mono ?_); rintro e w4 ⟨rfl, rfl⟩)))
          go_ret
          exact PO.good hKr.out r.out.symm hRd.out rfl
        · have r := Lib.hid ((nameP_no (l := l2) hb' hE).symm.trans hP.out)
          by_cases h58 : b = 58
          · have hl0 : acc.length = 0 := by
              rcases Nat.eq_zero_or_pos acc.length with h | h
              · exact h
              · exact absurd ⟨h58, h⟩ hE
            subst h58
            have g3 : ((58 : UInt8).toNat : Int) = 58 := by decide
            have g2 : decide ((0 : Int) < (0 : Nat)) = false := by simp
            rw [g3] at hspb
            rw [hl0] at *
            clear hP hN hb hb' hE
            go_wp2_with (first | (go_at_call 135; (with_reducible refine (hspb.out _).mono ?_); rintro e w4 ⟨rfl, rfl⟩) | (first | (go_at_call 138; (with_reducible refine (hyes.out _).mono ?_); rintro e w4 ⟨rfl, rfl⟩) | (go_at_call 138; (with_reducible refine (hno.out _).mono ?_); rintro e w4 ⟨rfl, rfl⟩)))
            exact ⟨rfl, PO.bad hKr.out r.out.symm⟩
          · have g3 : ((b.toNat : Int) == 58) = false := by
              have : b.toNat ≠ 58 := fun e => h58 (UInt8.toNat_inj.1 (by simpa using e))
              simp; omega
            clear hP hN hb hb' hE
            generalize acc.length = n at *
            go_wp2_with (first | (go_at_call 135; (with_reducible refine (hspb.out _).mono ?_); rintro e w4 ⟨rfl, rfl⟩) | (first | (go_at_call 138; (with_reducible refine (hyes.out _).mono ?_); rintro e w4 ⟨rfl, rfl⟩) | (go_at_call 138; (with_reducible refine (hno.out _).mono ?_); rintro e w4 ⟨rfl, rfl⟩)))
            exact ⟨rfl, PO.bad hKr.out r.out.symm⟩
end Go.Proofs.YtnhpjacodhdpeaaDoor
