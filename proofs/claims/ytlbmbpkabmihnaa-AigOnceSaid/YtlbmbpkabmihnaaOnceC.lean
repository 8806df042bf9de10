/-
  AigOnce: the walk.
-/
import Derived.Test.YtlbmbpkabmihnaaOnceB
import Derived.Test.YtlbmbpkabmihnaaAigU
namespace Go.Proofs.Ytlbmbpkabmihnaa
open Go.RowKit Go.Maps

theorem six_u8 (x : Int) : Hid (0 ≤ x % 6 ∧ x % 6 < 6) := Lib.hid ⟨by omega, by omega⟩

theorem own_mapB {w w' : World} {k : TypeId} {R : Value → Option (DataW Unit × List MemPlace)} {b n : Nat} {D : DataW Unit} (h : w.ownsMap Try.prog k R b n D) (hb : Below w.heap.size w w') : w'.ownsMap Try.prog k R b n D := by
  have hlt := h.lt
  obtain ⟨es, cl, h1, r⟩ := h
  exact ⟨es, cl, (hb.block b hlt).trans h1, r⟩

set_option maxHeartbeats 2000000 in
set_option maxRecDepth 100000 in
theorem once_any {w : World} {a : Option Addr} {n cap : Nat} {l : List ActV} (hA : Acts w a n l) {x : Int} (hx0 : 0 ≤ x) (hx1 : x ≤ 255) :
    Calls Try.prog 4 #[.slice a n cap, .int .u8 x] w fun e w' => e = .returned (.bool true) ∧ Below w.heap.size w w' := by
  obtain ⟨m6, hm6, hm60⟩ : ∃ m : Nat, (m : Int) = 1 + x % 6 ∧ m ≤ 6 := ⟨(1 + x % 6).toNat, by omega, by omega⟩
  have HA := Lib.hid hA
  have hle := hA.le
  have hmod : x.tmod 6 = x % 6 := Int.tmod_eq_emod_of_nonneg hx0
  have hw1 : IntKind.u8.wrap (x % 6) = x % 6 := by show (x % 6) % 256 = x % 6; omega
  have hw2 : IntKind.u8.wrap (1 + x % 6) = m6 := by show (1 + x % 6) % 256 = m6; omega
  obtain ⟨i0, hi, hz0, hz1, hz2⟩ := info_parts info_act
  clear hA
  go_enter Try.func4, Try.ntmps4
  go_wp2
  rw [← hm6]
  clear hm6 hmod hw1 hw2
  go_loopw [5, 31] (fun v i wr => ∃ j : Nat, j ≤ m6 ∧ i = .int .u8 j ∧ Hid (wr.ownsRow w.heap.size 50 2 v j (actCells (List.replicate j act0))) ∧ Hid (Below w.heap.size w wr)) (fun _ i _ => m6 - (intOf i).toNat)
  case atStart => exact ⟨0, Nat.zero_le _, rfl, Lib.hid ⟨rfl, .inl ⟨rfl, rfl⟩⟩, Lib.hid (Below.refl _ _)⟩
  case round =>
    obtain ⟨j, hj, rfl, ho, hB⟩ := hrel
    by_cases hjm : j < m6
    · have hrep := Lib.hid (show actCells (List.replicate (j + 1) act0) = actCells (List.replicate j act0) ++ [.int .i64 0, .slice none 0 0] by rw [List.replicate_succ', actCells_push]; rfl)
      have hsz := hB.out.size
      go_wp2_with (at_builtin; refine wpList_append_lies _ rfl _ _ 24 rfl w.heap.size 50 i0 (.agg #[.int .i64 0, .slice none 0 0]) 2 32 Try.underlying24 hi hz0 hz1 hz2 rfl (by decide) u5 j _ rfl (ho.out.alloc _) ⟨wr.heap.size, 0, none⟩ 1 1 [.int .i64 0, .slice none 0 0] rfl rfl (news2 (by go_simp) (by go_simp)) (by simp [Value.oneCell']) (by decide) (by unfold maxLen; omega) (by omega) (by simp; omega) _ rfl ?_; intro g cap1 w7 hown1 hgrow1 hat1 hlt1)
      go_roundw
      case rel => exact ⟨j + 1, by omega, by go_num, by rw [hrep.out]; exact Lib.hid hown1, Lib.hid ((hB.out.alloc hsz _).grown hgrow1 (by simp; omega) (fun k hk => own_ge ho.out k hk))⟩
      case measure => simp [intOf]; omega
    · obtain rfl : j = m6 := by omega
      clear hj hjm
      have hn0 := Lib.hid (show actCells (List.replicate j act0) = actCells (List.replicate j act0 ++ selL l 0) by simp [selL])
      go_wp2
      go_loopw [5, 40] (fun v i wr => ∃ i' : Nat, i' ≤ n ∧ i = .int .i64 i' ∧ Hid (wr.ownsRow w.heap.size 50 2 v (j + (selL l i').length) (actCells (List.replicate j act0 ++ selL l i'))) ∧ Hid (Below w.heap.size w wr)) (fun _ i _ => n - (intOf i).toNat)
      case atStart => exact ⟨0, Nat.zero_le _, rfl, by rw [← hn0.out]; exact ho, hB⟩
      case round =>
        clear ho hB hn0
        obtain ⟨i, hin, rfl, ho, hB⟩ := hrel
        have hsl := selL_len l i
        have hsz := hB.out.size
        by_cases hlt : i < n
        · obtain ⟨b, off, rfl, hb, hc⟩ : ∃ b off, a = some ⟨b, off, none⟩ ∧ b < w.heap.size ∧ ∀ i, i < n → w.cell? ⟨b, off + i * 2, none⟩ = some (.int .i64 (l.getD i act0).what) ∧ w.cell? ⟨b, off + i * 2 + 1, none⟩ = some (.slice (l.getD i act0).a (l.getD i act0).n (l.getD i act0).c) := by
            rcases HA.out.cells with h0 | h
            · omega
            · exact h
          have k0 := stepc hB.out hb (hc i hlt).1
          have k1 := stepc hB.out hb (hc i hlt).2
          clear hc
          by_cases hs : i < 30 ∧ 1 ≤ (l.getD i act0).what ∧ (l.getD i act0).what ≤ 4
          · have hsk : Hid (actCells (List.replicate j act0 ++ selL l (i + 1)) = actCells (List.replicate j act0 ++ selL l i) ++ [.int .i64 (l.getD i act0).what, .slice (l.getD i act0).a (l.getD i act0).n (l.getD i act0).c]) := Lib.hid (by rw [show selL l (i + 1) = selL l i ++ [l.getD i act0] by rw [selL, if_pos hs], ← List.append_assoc, actCells_push]; rfl)
            have hsn : Hid (j + (selL l (i + 1)).length = j + (selL l i).length + 1) := Lib.hid (by rw [selL, if_pos hs]; simp; omega)
            obtain ⟨s0, s1, s2⟩ := hs
            generalize (l.getD i act0).what = K at *
            generalize (l.getD i act0).a = la at *
            generalize (l.getD i act0).n = ln at *
            generalize (l.getD i act0).c = lc at *
            have d0 : decide ((i : Int) < 30) = true := by simp; omega
            have d1 : decide (K ≥ 1) = true := by simp; omega
            have d1' : decide (1 ≤ K) = true := by simp; omega
            have d2 : decide (K ≤ 4) = true := by simp; omega
            go_wp2_with (at_builtin; refine wpList_append_lies _ rfl _ _ 24 rfl w.heap.size 50 i0 (.agg #[.int .i64 0, .slice none 0 0]) 2 32 Try.underlying24 hi hz0 hz1 hz2 rfl (by decide) u5 (j + (selL l i).length) _ rfl ((ho.out.alloc _).alloc _) ⟨_, 0, none⟩ 1 1 [.int .i64 K, .slice la ln lc] rfl rfl (news2 (by go_simp) (by go_simp)) (by simp [Value.oneCell']) (by decide) (by unfold maxLen; omega) (by omega) (by simp; omega) _ rfl ?_; intro g cap1 w7 hown1 hgrow1 hat1 hlt1)
            go_roundw
            case rel => exact ⟨i + 1, by omega, by go_num, by rw [hsk.out, hsn.out]; exact Lib.hid hown1, Lib.hid (((hB.out.alloc hsz _).alloc (by simp; omega) _).grown hgrow1 (by simp; omega) (fun k hk => own_ge ho.out k hk))⟩
            case measure => simp [intOf]; omega
          · have hsk : Hid (selL l (i + 1) = selL l i) := Lib.hid (by rw [selL, if_neg hs])
            generalize (l.getD i act0).what = K at *
            generalize (l.getD i act0).a = la at *
            generalize (l.getD i act0).n = ln at *
            generalize (l.getD i act0).c = lc at *
            by_cases s0 : i < 30
            · have d0 : decide ((i : Int) < 30) = true := by simp; omega
              by_cases s1 : 1 ≤ K
              · have d1 : decide (1 ≤ K) = true := by simp; omega
                have d2 : decide (K ≤ 4) = false := by simp; omega
                have s2 : ¬ K ≤ 4 := by omega
                go_wp2
                go_roundw
                case rel => exact ⟨i + 1, by omega, by go_num, by rw [hsk.out]; exact Lib.hid (ho.out.alloc _), Lib.hid (hB.out.alloc hsz _)⟩
                case measure => simp [intOf]; omega
              · have d1 : decide (1 ≤ K) = false := by simp; omega
                go_wp2
                go_roundw
                case rel => exact ⟨i + 1, by omega, by go_num, by rw [hsk.out]; exact Lib.hid (ho.out.alloc _), Lib.hid (hB.out.alloc hsz _)⟩
                case measure => simp [intOf]; omega
            · have d0 : decide ((i : Int) < 30) = false := by simp; omega
              go_wp2
              go_roundw
              case rel => exact ⟨i + 1, by omega, by go_num, by rw [hsk.out]; exact Lib.hid (ho.out.alloc _), Lib.hid (hB.out.alloc hsz _)⟩
              case measure => simp [intOf]; omega
        · obtain rfl : i = n := by omega
          obtain ⟨a5, c5, rfl, hA5⟩ := acts_own ho.out (by simp) (by omega) (fun A hm => by
            rcases List.mem_append.1 hm with hm | hm
            · rw [(List.mem_replicate.1 hm).2]; exact ActOk.zero _
            · exact (selL_ok HA.out i (Nat.le_refl _) A hm).step hB.out)
          have hlen : j + (selL l i).length ≤ 36 := by omega
          clear hsl hin hlt HA hle hi hz0 hz1 hz2 ho
          generalize List.replicate j act0 ++ selL l i = LL at *
          generalize j + (selL l i).length = N at *
          obtain ⟨wb, rfl⟩ : ∃ wb : World, wb = wr := ⟨_, rfl⟩
          have hLL := hA5.len
          have hk := grownG_kind true true false LL (min N 40) (by omega) (by omega)
          have hon := once_grown LL (min N 40) (by omega) (by omega)
          obtain ⟨⟨G, T⟩, hM⟩ : ∃ M, grownG true true false LL (min N 40) = M := ⟨_, rfl⟩
          have hgr := Lib.hid (grown_at true true false (cap := c5) hA5 hM)
          rw [hM] at hk hon
          have hT : T.length ≤ 40 := Nat.le_trans hk.told (by omega)
          have hG9 : G.nodes.length ≤ 1000 := Nat.le_trans hk.len (by omega)
          have hTh := Lib.hid hk.there
          have hwf := Lib.hid hk.wf
          have hon := Lib.hid hon
          simp only at hTh hwf hon
          have honh := Lib.hid hon.out.hash
          have hwk := Lib.hid (fun w => wakes_any w)
          have hmm := @run_makeMap Try.prog
          have hsz := Lib.hid hsz
          clear hM hk hA5 hLL
          go_wp2_with (first
            | (go_at_call 6; (with_reducible refine hgr.out.mono ?_); rintro e w2 ⟨p, B, a2, c2, rfl, hA2, hM2⟩; have hb2 := Lib.hid (hwk.out w2))
            | (go_at_call 7; (with_reducible refine hb2.out.mono ?_); rintro e w3 ⟨rfl, hB3⟩; have hA3 := Lib.hid (hA2.step hB3); have hM3 := Lib.hid (hM2.step hB3); clear hA2 hM2 hb2 hB3; have hno := Lib.hid ((hA3.out.step ((Below.refl _ _).alloc (Nat.le_refl _) (.map #[] 0))).nodes))
            | (go_at_call 17; (with_reducible refine hno.out.mono ?_); rintro e w4 ⟨rfl, rfl⟩))
          clear hmm hwk hgr hno
          have hmb : Hid (w3.heap.size = w3.heap.size) := Lib.hid rfl
          have hap := Lib.hid (fun k (hk : p.has k) => hA3.out.is.has_lt hk)
          have hta := Lib.hid (hM3.out.lt)
          have hb0 := hA3.out.below.size
          have hm0 := Lib.hid (World.ownsMap_made (H := Unit) w3 Try.prog 55 (plainElem Try.prog 4))
          have hg0 := Lib.hid (show gatesTo G 0 = 0 from rfl)
          have hBm := (Below.refl w3.heap.size w3).alloc (Nat.le_refl _) (.map #[] 0)
          have hA4 := Lib.hid (hA3.out.step hBm)
          have hM4 := Lib.hid (hM3.out.step hBm)
          clear hBm hA3 hM3
          generalize w3.heap.size = mb at *
          go_loopw [12, 78] (fun c i w' => ∃ k : Nat, k ≤ G.nodes.length ∧ i = .int .i64 k ∧ c = .int .i64 (gatesTo G k) ∧ Hid (AtG wb B w' p G) ∧ Hid (Mine wb w' 42 (.slice a2 T.length c2) T.length (T.map (Value.int .u32))) ∧ ∃ D, Hid (w'.ownsMap Try.prog 55 (plainElem Try.prog 4) mb k D) ∧ Hid (SeenOf G k D)) (fun _ i _ => G.nodes.length - (intOf i).toNat)
          case atStart => exact ⟨0, Nat.zero_le _, rfl, by rw [hg0.out]; rfl, hA4, hM4, _, hm0, Lib.hid (seen_nil G)⟩
          case round =>
            clear hA4 hM4 hm0 hg0
            obtain ⟨k, hk, rfl, rfl, hAk, hMk, D, hD, hS⟩ := hrel
            by_cases hkn : k < G.nodes.length
            · have hn : Hid (G.nodes[k]? = some (nodeAt G k)) := Lib.hid (by simp [nodeAt, List.getD, hkn])
              have hgt := Lib.hid (hAk.out.gateAt hkn)
              have hsu := Lib.hid (gatesTo_succ hkn)
              have hgl := gatesTo_le G k
              have hwg := Lib.hid (fun h => hwf.out.gates k _ hn.out h)
              have hog := Lib.hid (fun h => hon.out.pair k _ hn.out h)
              have ho1 : Hid ((nodeAt G k).gate = true → ∀ (i : Nat) (n : Nd), i < k → G.nodes[i]? = some n → n.gate = true → ¬ (n.a = (nodeAt G k).a ∧ n.b = (nodeAt G k).b)) := Lib.hid (fun h i n hi hni hg e => by have := hon.out.one i k n _ hni hn.out hg h e.1 e.2; omega)
              have hput := Lib.hid (fun (h : (nodeAt G k).gate = true) h1 h2 => hS.out.put hn.out h h1 h2)
              generalize (nodeAt G k).gate = ng at *
              generalize (nodeAt G k).a = na at *
              generalize (nodeAt G k).b = nb at *
              generalize gatesTo G k = c at *
              cases ng with
              | false =>
                go_wp2_with (go_at_call 18; (with_reducible refine hgt.out.mono ?_); rintro e w5 ⟨rfl, hB5⟩)
                go_roundw
                case rel => exact ⟨k + 1, by omega, by go_num, by rw [hsu.out]; simp, Lib.hid (hAk.out.step hB5), Lib.hid (hMk.out.step hB5), D, Lib.hid ((own_mapB hD.out hB5).mono (by omega)), Lib.hid hS.out.skip⟩
                case measure => simp [intOf]; omega
              | true =>
                obtain ⟨la, lb, -, hak⟩ := hwg.out rfl
                obtain ⟨hba, hb1, hne⟩ := hog.out rfl
                have hput2 := Lib.hid (hput.out rfl la lb)
                have ho2 := Lib.hid (ho1.out rfl)
                have hna := Lib.hid (fun w => node_any na la w)
                have hnb := Lib.hid (fun w => node_any nb lb w)
                have la0 := la.1
                have lb0 := lb.1
                have d0 : decide (na ≤ nb) = false := by simp; omega
                have d1 : decide ((k : Int) ≤ na / 2) = false := by simp; omega
                have d2 : (nb / 2 == 0) = false := by simp; omega
                have hlk := Lib.hid (fun (w' : World) (h : w'.ownsMap Try.prog 55 (plainElem Try.prog 4) mb k D) => seen_look hD.out hS.out la lb ho2.out h)
                have hll := Lib.hid (And.intro la lb)
                clear la lb hwg hog hba hput ho1
                go_wp2_with (first
                  | (go_at_call 18; (with_reducible refine hgt.out.mono ?_); rintro e w5 ⟨rfl, hB5⟩; have hD5 := Lib.hid (own_mapB hD.out hB5); have hA5 := Lib.hid (hAk.out.step hB5); have hM5 := Lib.hid (hMk.out.step hB5); have hlk5 := hlk.out w5 hD5.out; clear hB5 hAk hMk hgt)
                  | (go_at_call 19; (with_reducible refine (hna.out _).mono ?_); rintro e w6 ⟨rfl, rfl⟩)
                  | (go_at_call 19; (with_reducible refine (hnb.out _).mono ?_); rintro e w6 ⟨rfl, rfl⟩)
                  | (at_mapUpdate; refine wpList_mapUpdate_own _ rfl _ _ _ 51 rfl 55 4 slaw Try.underlying51 _ mb k D rfl hD5.out (by unfold maxLen; omega) _ _ (pkey na nb) rfl rfl (skey_pair hll.out.1 hll.out.2) (.lit (.bool true)) [] (plainElem_bool Try.underlying4 true) ?_; intro w7 hown7 hgrow7))
                go_roundw
                case rel => exact ⟨k + 1, by omega, by go_num, by rw [hsu.out]; simp, Lib.hid (hA5.out.beside (kept_grown hgrow7) (fun k' e hp => by have := hap.out k' hp; simp at e; omega) (fun k' e => by simp at e; omega)), Lib.hid (hM5.out.beside (kept_grown hgrow7) (fun k' e1 e2 => by have := hta.out k' e1; simp at e2; omega)), _, Lib.hid hown7, hput2⟩
                case measure => simp [intOf]; omega
            · obtain rfl : k = G.nodes.length := by omega
              have hga := hAk.out.gates
              rw [← gatesTo_all hwf.out] at hga
              have hga := Lib.hid hga
              generalize gatesTo G G.nodes.length = c at *
              clear hD hS hon hmb
              go_wp2_with (go_at_call 20; (with_reducible refine hga.out.mono ?_); rintro e w8 ⟨rfl, hB8⟩; have hA8 := Lib.hid (hAk.out.step hB8); have hM8 := Lib.hid (hMk.out.step hB8); clear hga hAk hMk hB8)
              go_loopw [131] (fun i w' => ∃ i' : Nat, i' ≤ T.length ∧ i = .int .i64 i' ∧ ∃ p' G', Hid (AtG wb B w' p' G') ∧ Hid (Mine wb w' 42 (.slice a2 T.length c2) T.length (T.map (Value.int .u32))) ∧ Hid (Le G G') ∧ G'.nodes.length ≤ 1000 + i' * 40) (fun i _ => T.length - (intOf i).toNat)
              case atStart => exact ⟨0, Nat.zero_le _, rfl, p, G, hA8, hM8, Lib.hid (Le.refl _), by omega⟩
              case round =>
                clear hA8 hM8 hap hta
                obtain ⟨i, hi9, rfl, p1, G1, hA1, hM1, hL1, hn1⟩ := hrel
                by_cases hil : i < T.length
                · obtain ⟨hro, -⟩ := hM1.out.row (by omega)
                  obtain ⟨b2, o2, rfl, hb2, hc2⟩ := hro.at (by omega)
                  have hx2 := hc2 i hil
                  have hta := Lib.hid (fun i (h : i < T.length) => hTh.out.at h)
                  obtain ⟨X, hX⟩ : ∃ X : Int, T.getD i 0 = X := ⟨_, rfl⟩
                  have tX : Hid (There G X) := Lib.hid (by rw [← hX]; exact hta.out i hil)
                  rw [hX] at hx2
                  clear hro hb2 hc2 hX
                  go_wp2
                  go_loopw [137] (fun i0 w' => ∃ j' : Nat, j' ≤ T.length ∧ i0 = .int .i64 j' ∧ ∃ p' G', Hid (AtG wb B w' p' G') ∧ Hid (Mine wb w' 42 (.slice (some ⟨b2, o2, none⟩) T.length c2) T.length (T.map (Value.int .u32))) ∧ Hid (Le G G') ∧ G'.nodes.length ≤ 1000 + i * 40 + j') (fun i _ => T.length - (intOf i).toNat)
                  case atStart => exact ⟨0, Nat.zero_le _, rfl, p1, G1, hA1, hM1, hL1, by omega⟩
                  case round =>
                    clear hA1 hM1 hL1 hn1
                    obtain ⟨j, hj9, rfl, p1, G1, hA1, hM1, hL1, hn1⟩ := hrel
                    by_cases hjl : j < T.length
                    · obtain ⟨hro, -⟩ := hM1.out.row (by omega)
                      obtain ⟨b3, o3, e3, -, hc3⟩ := hro.at (by omega)
                      obtain ⟨rfl, rfl⟩ : b2 = b3 ∧ o2 = o3 := by simpa using e3
                      have hy3 := hc3 j hjl
                      have ta := hL1.out.there tX.out
                      have tb := hL1.out.there (hta.out j hjl)
                      clear hro e3 hc3
                      generalize T.getD j 0 = Y at *
                      have hh1 : G1.hash = true := hL1.out.hash.trans honh.out
                      obtain ⟨⟨G2, z⟩, hr1⟩ : ∃ r, andG G1 X Y = r := ⟨_, rfl⟩
                      have hr2 := andG_again hh1 X Y hr1
                      have hr3 := hr2
                      rw [andG_comm] at hr3
                      have g2 := andG_good hA1.out.wf ta tb (by omega)
                      rw [hr1] at g2
                      have hl2 := g2.len
                      have hL2 := Lib.hid (hL1.out.trans g2.le)
                      have ta2 := g2.le.there ta
                      have tb2 := g2.le.there tb
                      simp only at hl2 hL2 ta2 tb2
                      have q1 := Lib.hid (hA1.out.andS hM1.out hr1 ta tb (by omega))
                      have q2 := Lib.hid (fun w' p' (h : AtG wb B w' p' G2) (m : Mine wb w' 42 (.slice (some ⟨b2, o2, none⟩) T.length c2) T.length (T.map (Value.int .u32))) => h.andS m hr3 tb2 ta2 (by omega))
                      have q3 := Lib.hid (fun w' p' (h : AtG wb B w' p' G2) (m : Mine wb w' 42 (.slice (some ⟨b2, o2, none⟩) T.length c2) T.length (T.map (Value.int .u32))) => h.andS m hr2 ta2 tb2 (by omega))
                      have d3 : decide (3000 < (G2.nodes.length : Int)) = false := by simp; omega
                      have d4 : ¬ (3000 < (G2.nodes.length : Int)) := by omega
                      clear hr1 hr2 hr3 g2 ta tb ta2 tb2 hh1 hA1 hM1 hL1
                      go_wp2_with (first
                        | (go_at_call 11; (with_reducible refine q1.out.mono ?_); rintro e w5 ⟨rfl, p5, hA5, hM5⟩; have r2 := Lib.hid (q2.out _ _ hA5 hM5); have r1 := Lib.hid hA5.nodes; clear q1 hA5 hM5)
                        | (go_at_call 17; (with_reducible refine r1.out.mono ?_); rintro e w6 ⟨rfl, rfl⟩; clear r1)
                        | (go_at_call 11; (with_reducible refine r2.out.mono ?_); rintro e w7 ⟨rfl, p7, hA7, hM7⟩; have r3 := Lib.hid (q3.out _ _ hA7 hM7); clear r2 hA7 hM7)
                        | (go_at_call 11; (with_reducible refine r3.out.mono ?_); rintro e w8 ⟨rfl, p8, hA8, hM8⟩; have HA8 := Lib.hid hA8; have HM8 := Lib.hid hM8; have r1 := Lib.hid hA8.nodes; clear r3 hA8 hM8))
                      go_roundw
                      case rel => exact ⟨j + 1, by omega, by go_num, p8, G2, HA8, HM8, hL2, by omega⟩
                      case measure => simp [intOf]; omega
                    · obtain rfl : j = T.length := by omega
                      go_wp2
                      go_roundw
                      case rel => exact ⟨i + 1, by omega, by go_num, p1, G1, hA1, hM1, hL1, by omega⟩
                      case measure => simp [intOf]; omega
                · obtain rfl : i = T.length := by omega
                  go_wp2
                  go_ret
                  exact ⟨rfl, hB.out.trans (hA1.out.below.mono hB.out.size)⟩
end Go.Proofs.Ytlbmbpkabmihnaa
