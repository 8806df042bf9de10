/-
  Round.
-/
import Derived.Test.YtocfchgkfaogdaaLvX
namespace Go.Proofs.Ytocfchgkfaogdaa
open Go.RowKit Go.Maps
set_option maxRecDepth 100000

/-- What is left, which have been, the way. -/
structure RO (w wr : World) (bl : Nat) (ks : List Nat) (fl : Nat → Int) (bp : Nat) (pk : List Nat) (fp : Nat → Int) (wv : Value) (way : List Nat) : Prop where
  low : Below w.heap.size w wr
  left : LMap wr bl ks fl
  place : LMap wr bp pk fp
  bpg : w.heap.size ≤ bp
  ne : bp ≠ bl
  way : wr.ownsRow w.heap.size 3 1 wv way.length (ints (iz way))
section
variable {w wr wq : World} {bl bp : Nat} {ks pk way : List Nat} {fl fp : Nat → Int} {wv : Value}
theorem RO.below (h : RO w wr bl ks fl bp pk fp wv way) (hb : Below wr.heap.size wr wq) : RO w wq bl ks fl bp pk fp wv way :=
  ⟨nextw h.low hb, h.left.step hb, h.place.step hb, h.bpg, h.ne, own_below h.way hb⟩
theorem RO.put (h : RO w wr bl ks fl bp pk fp wv way) {pk' : List Nat} {fp' : Nat → Int} (hg : wr.grownBy wq (some bp)) (hm : LMap wq bp pk' fp') : RO w wq bl ks fl bp pk' fp' wv way := by
  obtain ⟨es, cl, ho⟩ := h.place.obj
  have hk : Kept (fun k => k = bp) wr wq := (Kept.of_grown hg).wide (fun k e => by cases e; rfl)
  refine ⟨h.low.trans (hk.below (fun k e => by rw [e]; exact h.bpg) h.low.size), h.left.block (hk.block _ h.left.lt (fun e => h.ne e.symm)), hm, h.bpg, h.ne, own_keptF h.way hk (fun k e hf => ?_)⟩
  obtain ⟨cur, hc⟩ := own_type h.way e
  exact kinds_map hc (hf ▸ ho)
theorem RO.app (h : RO w wr bl ks fl bp pk fp wv way) {z : Nat} (ez : way.length = z) {w2 w1 : World} {g1 cap1 : Nat} {x : Nat} (hb : Below wr.heap.size wr w2) (hown : w1.ownsRow w.heap.size 3 1 (.slice (some ⟨g1, 0, none⟩) (z + 1) cap1) (z + 1) (ints (iz way) ++ [.int .i64 (x : Int)])) (hg : w2.grownBy w1 wv.ownBlock) :
    RO w w1 bl ks fl bp pk fp (.slice (some ⟨g1, 0, none⟩) (z + 1) cap1) (way ++ [x]) := by
  subst ez
  have hk := grown_kept hb hg
  have nomap : ∀ {b : Nat} {ks : List Nat} {f : Nat → Int}, LMap wr b ks f → ¬ wv.ownBlock = some b := fun hm e => by
    obtain ⟨es, cl, ho⟩ := hm.obj
    obtain ⟨cur, hc⟩ := own_type h.way e
    exact kinds_map hc ho
  exact ⟨h.low.trans (hk.below (fun k e => own_ge h.way k e) h.low.size), h.left.block (hk.block _ h.left.lt (nomap h.left)), h.place.block (hk.block _ h.place.lt (nomap h.place)), h.bpg, h.ne, by rw [iz_snoc, List.length_append]; exact hown⟩
end
theorem LMap.look2 {w : World} {b : Nat} {ks : List Nat} {f : Nat → Int} (h : LMap w b ks f) {k : Nat} (hk : k ≤ 1000000) (hm : k ∈ ks) : (Instr.lookup 54 (.map (some b)) (.int .i64 (k : Int)) true).run Try.prog w = .ok (.tuple #[.int .i64 (f k), .bool true]) w := by
  obtain ⟨D, ho, hD⟩ := h
  obtain ⟨v, ps, hrun, hv⟩ := ho.look_ok ilaw Try.underlying54 (zero_int w) (zd := .lit (.int .i64 0)) (zp := []) (plainElem_int Try.underlying3 (by decide)) (key_int hk)
  obtain ⟨c, rfl, hc, -⟩ := plainElem_int_inv Try.underlying3 hv
  have hat := congrArg Prod.fst hc
  rw [hD.val k _ hk hm] at hat
  simp at hat
  rw [hrun, hD.has k hk, ← hat]
  simp [hm]
theorem LMap.look3 {w : World} {b : Nat} {ks : List Nat} {f : Nat → Int} (h : LMap w b ks f) {k : Nat} (hk : k ≤ 1000000) (hm : k ∉ ks) : (Instr.lookup 54 (.map (some b)) (.int .i64 (k : Int)) true).run Try.prog w = .ok (.tuple #[.int .i64 0, .bool false]) w := by
  obtain ⟨D, ho, hD⟩ := h
  obtain ⟨v, ps, hrun, hv⟩ := ho.look_ok ilaw Try.underlying54 (zero_int w) (zd := .lit (.int .i64 0)) (zp := []) (plainElem_int Try.underlying3 (by decide)) (key_int hk)
  obtain ⟨c, rfl, hc, -⟩ := plainElem_int_inv Try.underlying3 hv
  have hat := congrArg Prod.fst hc
  have hh := hD.has k hk
  rw [show decide (k ∈ ks) = false by simp [hm]] at hh
  rw [atKey_of_not_has hh] at hat
  simp at hat
  rw [hrun, hh, ← hat]

theorem row_drop {w : World} {base g n c B : Nat} {way : List Nat} (h : w.ownsRow base 3 1 (.slice (some ⟨g, 0, none⟩) n c) n (ints (iz way))) (hl : way.length = n) (hn : n ≤ 1000000) (hB : B ≤ n) : Row .i64 w (some ⟨g, B, none⟩) (n - B) (iz (way.drop B)) := by
  have hr := Row.of_own h (by rw [iz_len, hl]) (by omega)
  refine ⟨by simp [iz, hl], by omega, ?_⟩
  by_cases h0 : n - B = 0
  · exact .inl h0
  · obtain ⟨b, off, e, hb, hc⟩ := hr.at (by omega)
    simp only [Option.some.injEq, Addr.mk.injEq, and_true] at e
    obtain ⟨rfl, rfl⟩ := e
    refine .inr ⟨_, _, rfl, hb, fun i hi => ?_⟩
    have h1 := hc (B + i) (by omega)
    rw [Nat.zero_add] at h1
    rw [h1]
    have : (iz way).getD (B + i) 0 = (iz (way.drop B)).getD i 0 := by simp [iz, List.getD, List.getElem?_drop]
    rw [this]
theorem collect_keys' {w : World} {b : Nat} {ks : List Nat} {f : Nat → Int} (h : LMap w b ks f) (hk : ∀ k ∈ ks, k ≤ 1000000) (hl : ks.length ≤ 1000000) {z : Nat} (hz : w.heap.size = z) :
    Calls Try.prog 33 #[.func (.func 45) #[] #[.pointer (some ⟨z, 0, none⟩)]] (w.alloc (.cells #[.map (some b)] 54)) fun e w' => ∃ (a : Option Addr) (c : Nat) (ss : List Int), e = .returned (.slice a ss.length c) ∧ (∀ x, x ∈ ss ↔ ∃ k ∈ ks, x = (k : Int)) ∧ ss.length ≤ 1000000 ∧ w'.ownsRow w.heap.size 3 1 (.slice a ss.length c) ss.length (ints ss) ∧ Below w.heap.size w w' := by
  subst hz; exact collect_keys h hk hl
set_option maxHeartbeats 16000000 in
theorem Round_any {w : World} {a : Option Addr} {n : Nat} {N : List (List Int)} (h : RR w a n N) (hn : n ≤ 1000) (hr : ∀ i, (N.getD i []).length ≤ 1000) (c : Nat) :
    Calls Try.prog 14 #[.slice a n c] w fun e w' => ∃ (va : Option Addr) (ca : Nat), e = .returned (.tuple #[.slice va (rndN N).length ca, .bool (decide (0 < (rndN N).length))]) ∧ Row .i64 w' va (rndN N).length (iz (rndN N)) ∧ (rndN N).length ≤ ca ∧ ca ≤ 9223372036854775807 ∧ Below w.heap.size w w' := by
  have hmay := Lib.hid (May_any h c)
  have hl := h.len
  rcases (show mayN N = true ∨ mayN N = false by cases mayN N <;> simp) with hm | hm
  · have hR : rndN N = rndL N := by simp [rndN, hm]
    rw [hR]
    rw [hm] at hmay
    have ht := Lib.hid (tell_any h hm hn hr c)
    have hmm : ∀ (z : Int) (W : World), (Instr.makeMap 54 (some (.int .i64 z))).run Try.prog W = .ok (.map (some W.heap.size)) (W.alloc (.map #[] 0)) := fun z W => by kernel_rfl
    have H := Lib.hid h
    have HM := Lib.hid hm
    have HR := Lib.hid hr
    have HL := Lib.hid hl
    have hkc := Lib.hid (fun mb w => keys_call mb w)
    have hck := Lib.hid (fun (wA : World) (b : Nat) (ks : List Nat) (f : Nat → Int) (h : LMap wA b ks f) h1 h2 (z : Nat) (hz : wA.heap.size = z) => collect_keys' h h1 h2 hz)
    obtain ⟨i0, hi, hz0, hz1, hz2⟩ := info_parts info_int
    clear h hm hr hR hl
    go_enter Try.func14, Try.ntmps14
    go_wp2
    apply wp_scope_straight
    go_wp2_with (first
      | (go_at_call 23; (with_reducible refine hmay.out.mono ?_); rintro e w5 ⟨rfl, hw5⟩; obtain rfl : w = w5 := hw5.symm)
      | (go_at_call 31; (with_reducible refine ht.out.mono ?_); rintro e w6 ⟨va, ca, bm, ks, f, rfl, hrow, hmap, hnd, hmem, hb⟩; clear hrow; have hlen := fun ty => hmap.len ty; have hm6 := Lib.hid hmap; have hb6 := Lib.hid hb; have hkn : Hid (ks.Nodup ∧ (∀ i, i ∈ ks ↔ i < n ∧ i ∉ told N)) := Lib.hid ⟨hnd, hmem⟩; have hks : ks.length ≤ 1000 := (by have := nodup_le n ks hnd (fun i hi => ((hmem i).1 hi).1); omega); have hm7 := Lib.hid (hmap.step ((Below.refl w6.heap.size w6).alloc (Nat.le_refl _) (.map #[] 0))); clear hmap hb hnd hmem)
      | (go_at_call 34; (with_reducible refine (hkc.out _ _).mono ?_); rintro e w7 ⟨rfl, rfl⟩)
      | (go_at_call 33; (with_reducible refine (hck.out _ _ _ _ hm7.out (fun k hk => by have := ((hkn.out.2 k).1 hk).1; omega) (by omega) (w6.heap.size + 1) (by simp)).mono ?_); rintro e w8 ⟨na, nc, ss, rfl, hss, hsl, hrow, hb8⟩; have hss := Lib.hid hss; have hn8 := Lib.hid (Row.of_own hrow rfl (by omega)); have hb8 := Lib.hid hb8; clear hrow))
    have hW67 : Below w6.heap.size w6 (w6.alloc (.map #[] 0)) := (Below.refl w6.heap.size w6).alloc (Nat.le_refl _) _
    have hRO : Hid (RO w w8 bm ks f w6.heap.size [] (fun _ => 0) (.slice none 0 0) []) := Lib.hid ⟨nextw (nextw hb6.out hW67) hb8.out, hm7.out.step hb8.out, (LMap.made w6 _).step hb8.out, hb6.out.size, fun e => by have := hm6.out.lt; omega, own_nil _ _ _⟩
    generalize w6.heap.size = bp at *
    clear hkc hck hmay ht hmm hm6 hm7 hb6 hb8 hW67 hlen
    have hkm := Lib.hid hkn.out.2
    have hWI : Hid (0 < ks.length → WI N [] ss) := Lib.hid (fun h0 => WI.start (ks := ks) (by rw [HL.out]; exact hkm.out) hss.out h0)
    have hR0 : Hid (ks.length = 0 → rndL N = []) := Lib.hid (fun h0 => rnd_none (ks := ks) (by rw [HL.out]; exact hkm.out) h0)
    clear hss hkn
    apply wp_label
    go_wp2
    go_loopw [6, 8] (fun s t wr => ∃ (way : List Nat) (fp : Nat → Int) (wa na : Option Addr) (wc nc : Nat) (l0 : List Int), s = .slice wa way.length wc ∧ t = .slice na l0.length nc ∧ l0.length ≤ 1000000 ∧ Hid (RO w wr bm ks f bp way fp (.slice wa way.length wc) way) ∧ Hid (Row .i64 wr na l0.length l0) ∧ Hid (0 < ks.length → WI N way l0) ∧ Hid (∀ x ∈ way, fp x = (way.idxOf x : Nat)) ∧ (ks.length = 0 → way = [])) (fun s _ _ => N.length - lenV s)
    case atStart => exact ⟨[], _, none, na, 0, nc, ss, rfl, rfl, hsl, hRO, hn8, hWI, Lib.hid (fun x h => by simp at h), fun _ => rfl⟩
    case round =>
      clear hRO hn8 hWI
      obtain ⟨way, fp, wa, na2, wc, nc2, l0, rfl, rfl, hl0, hRO, hrow, hWI, hfp, hw0⟩ := hrel
      have hlen := fun ty => hRO.out.left.len ty
      by_cases hk0 : ks.length = 0
      · have hway := hw0 hk0
        subst hway
        rw [hk0] at hlen
        have hres := Lib.hid (hR0.out hk0)
        clear hw0 hR0 hk0
        go_wp2
        rw [Exit.noGoto_ret]
        go_ret2
        rw [hres.out]
        exact ⟨wa, wc, rfl, Row.nil _ _ _, by simp, by have := own_cap hRO.out.way; omega, hRO.out.low⟩
      · have hWI1 := hWI.out (by omega)
        have hkg : decide ((0 : Int) < (ks.length : Int)) = true := by simp; omega
        have hvc := Lib.hid (fun a n c w => values_call a n c w)
        have hsv := Lib.hid (sorted_values (c := nc2) hrow.out hl0)
        have hl0r := hrow.out.len
        clear hw0 hR0 hrow
        go_wp2_with (first
          | (go_at_call 36; (with_reducible refine (hvc.out _ _ _ _).mono ?_); rintro e w9 ⟨rfl, rfl⟩)
          | (go_at_call 35; (with_reducible refine hsv.out.mono ?_); rintro e w10 ⟨sa, sc, ss2, rfl, hss, hsrow, hb10⟩; have hss := Lib.hid hss; have hRO10 := Lib.hid (hRO.out.below hb10); have hsr := Lib.hid (Row.of_own hsrow (by rw [hss.out]; simp) (by omega)); clear hsrow hb10 hRO))
        clear hvc hsv hlen
        have hsl2 : ss2.length = l0.length := by rw [hss.out]; simp
        have hwl := hWI1.len
        have hms : Hid (∀ t (ht : t < l0.length), ∃ k : Nat, ss2.getD t 0 = (k : Int) ∧ k < N.length) := Lib.hid (fun t ht => by
          have ht2 : t < ss2.length := by omega
          rw [getD_at ht2]
          exact hWI1.nat _ ((sort_mem _).1 (by rw [← hss.out]; exact List.getElem_mem ht2)))
        generalize hm0 : l0.length = m at *
        have hwn : way.length ≤ 1000 := by have := HL.out; omega
        go_loopw [6, 36] (fun s6 s wq => wq = w10 ∧ s6 = .slice wa way.length wc ∧ ∃ t : Nat, s = .int .i64 t ∧ t ≤ m ∧ Hid (∀ i, i < t → ∀ j : Nat, ss2.getD i 0 = (j : Int) → lf N j = false)) (fun _ s _ => m - (RowKit.intOf s).toNat)
        case atStart => exact ⟨rfl, rfl, 0, rfl, by omega, Lib.hid (fun i hi => by omega)⟩
        case round =>
          obtain ⟨rfl, rfl, t, rfl, ht, hno⟩ := hrel
          by_cases htm : t < m
          · obtain ⟨sb, so, rfl, hsb, hsc⟩ := hsr.out.at (by omega)
            have cs := hsc t htm
            obtain ⟨k, ek, hkN⟩ := hms.out t htm
            have hti : (t : Int) < m := by omega
            have hk6 : k ≤ 1000000 := by have := HL.out; omega
            have hno1 : Hid (lf N k = false → ∀ i, i < t + 1 → ∀ j : Nat, ss2.getD i 0 = (j : Int) → lf N j = false) := Lib.hid (fun hf i hi j e => by
              by_cases ei : i = t
              · subst ei
                rw [ek] at e
                obtain rfl : k = j := by omega
                exact hf
              · exact hno.out i (by omega) j e)
            have hfound : Hid (lf N k = true → lst N l0 = some k) := Lib.hid (fun hl => by
              have e := hss.out
              refine lst_scan (t := t) (by simp; omega) ?_ hl (by rw [← e]; exact hno.out)
              have ht2 : t < ss2.length := by omega
              rw [getD_at ht2] at ek
              simpa [e] using ek)
            rw [ek] at cs
            clear hsc ek
            by_cases hlf : lf N k = true
            · have hkk : k ∈ ks := (hkm.out k).2 (by have := lf_iff.1 hlf; rw [HL.out] at this; exact this)
              have hl1 := hRO10.out.left.look2 hk6 hkk
              have hx := Lib.hid (hfound.out hlf)
              clear hfound hno1 hno
              generalize f k = fk at *
              by_cases hkw : k ∈ way
              · have hl2 := hRO10.out.place.look2 hk6 hkw
                have hB : way.idxOf k < way.length := List.idxOf_lt_length_of_mem hkw
                rw [hfp.out k hkw] at hl2
                have hres := Lib.hid (hWI1.back hx.out hkw)
                have hwr := hRO10.out.way
                obtain ⟨g, wc2, ew⟩ := own_form hwr (by omega)
                simp only [Value.slice.injEq, true_and] at ew
                obtain ⟨rfl, rfl⟩ := ew
                obtain ⟨hc1, hc2⟩ := own_cap hwr
                have hfr := row_drop (B := way.idxOf k) hwr rfl (by omega) (by omega)
                rw [← hres.out] at hfr
                have hrl : (rndL N).length = way.length - way.idxOf k := by rw [hres.out]; simp
                have hfr := Lib.hid hfr
                have hlow := Lib.hid hRO10.out.low
                have hrl := Lib.hid hrl
                clear hRO10 hwr hfp hWI hWI1 hres hx hkw hkk hlf
                generalize way.idxOf k = B at *
                generalize way.length = L at *
                go_wp2
                rw [Exit.noGoto_ret]
                go_ret2
                rw [hrl.out]
                exact ⟨some ⟨g, B, none⟩, wc - B, rfl, hfr.out, by omega, by omega, hlow.out⟩
              · have hl2 := hRO10.out.place.look3 hk6 hkw
                have hnx := Lib.hid (hWI1.next HM.out hx.out hkw)
                have hfp2 : Hid (∀ x ∈ way ++ [k], upd fp k (way.length : Int) x = ((way ++ [k]).idxOf x : Nat)) := Lib.hid (fun x hx => by
                  by_cases e : x = k
                  · subst e
                    rw [upd_same, List.idxOf_append, if_neg hkw]; simp
                  · rw [upd_other _ _ e]
                    have hxw : x ∈ way := by simpa [e] using hx
                    rw [hfp.out x hxw, List.idxOf_append, if_pos hxw])
                obtain ⟨D, hown, hD⟩ := hRO10.out.place
                have HO := Lib.hid hown
                have hput := Lib.hid (fun w7 (h1 : w7.ownsMap Try.prog 3 (plainElem Try.prog 3) bp (way.length + 1) (D.put (ikey k) (.lit (.int .i64 (way.length : Int))))) (h2 : wr.grownBy w7 (some bp)) => hRO10.out.put h2 (LMap.of h1 (hD.putNew hk6 hkw _)))
                have hwf : (Lit.int .i64 (way.length : Int)).wf = true := int_wf (by omega)
                obtain ⟨b, off, rfl, hb, hcell⟩ := H.out.at (by have := HL.out; omega)
                obtain ⟨ai, ci, c1, q1, q2, hrow2⟩ := hcell k (by have := HL.out; omega)
                have hkn : (k : Int) < n := by have := HL.out; omega
                have hmj : (N.getD k []).length ≤ 1000 := HR.out k
                have hlow := hRO10.out.low
                have hlz := hlow.size
                have hkc0 := Lib.hid c1
                have hwr := Lib.hid hrow2
                generalize hmm2 : (N.getD k []).length = m2 at *
                generalize hLL : way.length = L at *
                clear hcell c1 hown hD hfp hx hkw hkk hlf hms hWI hrow2
                go_wp2_with (first
                  | (at_mapUpdate; refine wpList_mapUpdate_own _ rfl _ _ _ 54 rfl 3 3 ilaw Try.underlying54 _ bp _ _ rfl HO.out (by unfold maxLen; omega) _ _ (ikey k) rfl rfl (key_int (by omega)) (.lit (.int .i64 (L : Int))) [] (plainElem_int Try.underlying3 hwf) ?_; intro w7 hown7 hgrow7; have hRO7 := Lib.hid (hput.out _ hown7 hgrow7); have hb7 := hRO7.out.low; have hw7 := Lib.hid hRO7.out.way; clear hown7 hgrow7)
                  | (at_builtin; refine wpList_append_lies _ rfl _ _ 23 rfl w.heap.size 3 i0 (.int .i64 0) 1 8 Try.underlying23 hi hz0 hz1 hz2 rfl (by decide) (.slice wa L wc) L _ rfl ((by have := hw7.out; rw [hLL] at this; exact this : World.ownsRow _ _ _ _ _ _ _).alloc _) ⟨_, 0, none⟩ 1 1 [.int .i64 (k : Int)] rfl rfl (news1 _ _ _) (by simp [Value.oneCell']) (by decide) (by unfold maxLen; omega) (by omega) (by have := hb7.size; simp; omega) _ rfl ?_; intro g1 cap1 w8 hown8 hgrow8 hat8 hlt8; have hRO8 := Lib.hid (hRO7.out.app hLL ((Below.refl _ _).alloc (Nat.le_refl _) _) hown8 hgrow8); have c1t := stepc hRO8.out.low hb hkc0.out; clear hown8 hgrow8 hat8 hlt8))
                have e1 : (way ++ [k]).length = L + 1 := by simp [hLL]
                have e2 := hnx.out.len
                refine ⟨⟨way ++ [k], _, some ⟨g1, 0, none⟩, ai, cap1, ci, N.getD k [], by rw [e1], by rw [hmm2], by omega, by rw [e1]; exact hRO8, by rw [hmm2]; exact Lib.hid (hwr.out.step hRO8.out.low), Lib.hid (fun _ => hnx.out), hfp2, fun h => absurd h hk0⟩, ?_⟩
                simp only [lenV]
                omega
            · have hkk : k ∉ ks := fun h => hlf (lf_iff.2 (by have := (hkm.out k).1 h; rw [HL.out]; exact this))
              have hl1 := hRO10.out.left.look3 hk6 hkk
              have hno2 := Lib.hid (hno1.out (by simpa using hlf))
              clear hno1 hfound hno
              go_wp2
              exact ⟨⟨trivial, rfl, t + 1, by go_num, by omega, hno2⟩, by simp [RowKit.intOf]; omega⟩
          · exfalso
            have hnn := lst_scan_none (N := N) (l := l0) (by rw [← hss.out]; intro i hi; exact hno.out i (by omega))
            have := hWI1.is
            rw [hnn] at this
            cases this
  · have hR : rndN N = [] := by simp [rndN, hm]
    rw [hR]
    rw [hm] at hmay
    clear h hm hr hR
    go_enter Try.func14, Try.ntmps14
    go_wp2
    apply wp_scope_straight
    go_wp2_with (go_at_call 23; (with_reducible refine hmay.out.mono ?_); rintro e w5 ⟨rfl, rfl⟩)
    rw [Exit.noGoto_ret]
    go_ret2
    exact ⟨none, 0, rfl, Row.nil _ _ _, by simp, by omega, Below.refl _ _⟩
end Go.Proofs.Ytocfchgkfaogdaa
