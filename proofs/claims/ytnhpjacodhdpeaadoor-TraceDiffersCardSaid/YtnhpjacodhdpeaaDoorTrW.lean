/-
  The law on differing: its walk.
-/
import Derived.Test.YtnhpjacodhdpeaaDoorTrV
import Derived.Deep.RegionHeld3
import Derived.StillTailTactics
namespace Go.Proofs.YtnhpjacodhdpeaaDoor
open Go.RowKit Go.Maps Bits
set_option maxRecDepth 100000

theorem below_draws (w : World) (n : Nat) : Below w.heap.size w (w.drewN n) := ⟨rfl, rfl, rfl, Nat.le_refl _, fun _ _ => rfl⟩
theorem tbox2 {w : World} {u v p q : Value} : ∀ x, x = (w.alloc (.cells #[u, v] 25)).alloc (.cells #[p, q] 67) → Below w.heap.size w x ∧ w.heap.size + 1 < x.heap.size ∧ x.cell? ⟨w.heap.size, 0, none⟩ = some u ∧ x.cell? ⟨w.heap.size, 1, none⟩ = some v ∧ x.cell? ⟨w.heap.size + 1, 0, none⟩ = some p ∧ x.cell? ⟨w.heap.size + 1, 1, none⟩ = some q := by
  rintro x rfl
  exact ⟨((Below.refl _ _).alloc (Nat.le_refl _) _).alloc (by simp) _, by simp, by simp [go_sem], by simp [go_sem], by simp [go_sem], by simp [go_sem]⟩

theorem col_cell {w : World} {base n i : Nat} {v : Value} {F : Nat → Int} (h : w.ownsRow base 46 1 v (row n F).length ((row n F).map (Value.int .u64))) (hi : i < n) :
    ∃ g cap, v = .slice (some ⟨g, 0, none⟩) n cap ∧ g < w.heap.size ∧ w.cell? ⟨g, i, none⟩ = some (.int .u64 (F i)) := by
  have hl : (row n F).length = n := by simp [row]
  rw [hl] at h
  obtain ⟨g, cap, rfl⟩ := own_form h (by omega)
  have := h.cellAt i (by omega)
  refine ⟨g, cap, rfl, own_lt h, this.trans ?_⟩
  simp [row, hi]
set_option maxHeartbeats 8000000 in
theorem Differs_any {w : World} {a a2 : Option Addr} {n m : Nat} {L : List TB} {R : List (List Int)} (hTZ : ∀ w3, Below w.heap.size w w3 → TZ w3) (h : BsR w a n L) (h2 : RRk .u64 w a2 m R) (hWd : ∀ i, ∀ z ∈ (fewR R).getD i [], 0 ≤ z) (c c2 : Nat) (p0 p1 y : Nat) (hp0 : p0 < 256) (hp1 : p1 < 256) (hy64 : y < 18446744073709551616) :
    Calls Tryd.prog 6 #[.agg #[.slice a n c, .slice a2 m c2], .agg #[.int .u8 p0, .int .u8 p1], .int .u64 y] w fun e w' => e = .returned (.bool true) ∧ Below w.heap.size w w' := by
  have hfew := Lib.hid (fun w3 (hb : Below w.heap.size w w3) => few_any (h.step hb) (h2.step hb) c c2)
  clear h h2
  have hL20 := fewL_len L
  have hR30 := fewR_len R
  have hR25 := Lib.hid (fewR_rows R)
  have hLL := Lib.hid (fewL_two L)
  have hRR := Lib.hid (fewR_two R)
  have hWd := Lib.hid hWd
  generalize fewL L = LL at *
  generalize fewR R = RR at *
  have hbx := tbox2 _ (rfl : (w.alloc (.cells #[.slice a n c, .slice a2 m c2] 25)).alloc (.cells #[.int .u8 p0, .int .u8 p1] 67) = _)
  go_enter Tryd.func6, Tryd.ntmps6
  go_upto_region 1 with fail
  generalize (w.alloc (.cells #[.slice a n c, .slice a2 m c2] 25)).alloc (.cells #[.int .u8 p0, .int .u8 p1] 67) = wb at *
  obtain ⟨hb0, hz0, c0, c1, c2', c3⟩ := hbx
  have hlt0 : w.heap.size < wb.heap.size := by omega
  have hb0 := Lib.hid hb0
  go_cut [7, 8] (fun s7 s8 wx => ∃ (ba bb : Nat) (va v2 vb v3 : Value), s7 = .pointer (some ⟨ba, 0, none⟩) ∧ s8 = .pointer (some ⟨bb, 0, none⟩) ∧ Hid (TwoB wb wx ba bb va v2 vb v3 va v2 vb v3 LL RR RR))
  case first =>
    -- @region1
    refine wp_region_held_drew (S := fun w' => w'.cell? ⟨w.heap.size, 0, none⟩ = some (.slice a n c) ∧ w'.cell? ⟨w.heap.size, 1, none⟩ = some (.slice a2 m c2)) (by kernel_rfl) ?hs1 (fun hHeld => ?rest1)
    case hs1 => exact ⟨c0, c1⟩
    have hR := Lib.hid (R1.start (wb := wb) (L := LL) (R := RR))
    generalize wb.drew = X0 at *
    refine wpAnyH_take (i := 0) (oi := _) (v := ?vt1) rfl (by kernel_rfl) (by kernel_rfl) (by kernel_rfl) (fun _ _ _ h => h) (Or.inl ⟨by rfl, ?yt1⟩) (by assumption) ?rt1
    case yt1 => (intro w9 hSw; (try dsimp only at hSw); go_simp; (try with_reducible rfl))
    try simp only [Act.put, List.setIfInBounds_toArray, List.set_cons_zero, List.set_cons_succ]
    refine wpAnyH_take (i := 2) (oi := _) (v := ?vt2) rfl (by kernel_rfl) (by kernel_rfl) (by kernel_rfl) (fun _ _ _ h => h) (Or.inl ⟨by rfl, ?yt2⟩) (by assumption) ?rt2
    case yt2 => (intro w9 hSw; (try dsimp only at hSw); go_simp; (try with_reducible rfl))
    try simp only [Act.put, List.setIfInBounds_toArray, List.set_cons_zero, List.set_cons_succ]
    refine wpAnyH_ready (rs := [1, 4, 5]) (by kernel_rfl) (by simp) ?_
    refine AllReadyH.cons (o := { dst := some 29, op := Op.call { callee := Callee.value (Operand.func 10), args := #[Operand.tmp 28], argTypes := #[25] }, type := 25, pos := "outright.go:48", after := #[{ on := 0, ground := Ground.data }], guard := none }) rfl (fun KK hK => ?cs3) ?ms3
    case cs3 =>
      go_simp
      refine (hfew.out _ (nextw hb0.out hR.out.low)).mono ?_
      rintro e X1 ⟨va, v2, rfl, hT, hb⟩
      try go_wp2_with fail
      have hR2 := Lib.hid (hR.out.call1 hT hb)
      obtain ⟨xa1, xc1, rfl⟩ := own_slice hT.bus
      obtain ⟨kv, hkv, -⟩ := hT.rows
      obtain ⟨ya1, yc1, rfl⟩ := own_slice hkv
      clear hkv kv hT hb hR
      have hR := hR2
      clear hR2
      refine hK.out _ _ ?qs3 (fun hHeld2 => ?rs3)
      case qs3 => ((try dsimp only); exact ⟨stepc hR.out.low hlt0 c0, stepc hR.out.low hlt0 c1⟩)
      clear hK KK hHeld
      have hHeld := hHeld2
      clear hHeld2
      try simp only [Act.put, List.setIfInBounds_toArray, List.set_cons_zero, List.set_cons_succ]
      refine wpAnyH_ready (rs := [3, 4, 5]) (by kernel_rfl) (by simp) ?_
      refine AllReadyH.cons (o := { dst := some 31, op := Op.call { callee := Callee.value (Operand.func 10), args := #[Operand.tmp 30], argTypes := #[25] }, type := 25, pos := "outright.go:48", after := #[{ on := 2, ground := Ground.data }, { on := 1, ground := Ground.chain }], guard := none }) rfl (fun KK hK => ?cs4) ?ms4
      case cs4 =>
        go_simp
        refine (hfew.out _ (nextw hb0.out hR.out.low)).mono ?_
        rintro e X1 ⟨va, v2, rfl, hT, hb⟩
        try go_wp2_with fail
        have hR2 := Lib.hid (hR.out.call2 hT hb)
        obtain ⟨xa2, xc2, rfl⟩ := own_slice hT.bus
        obtain ⟨kv, hkv, -⟩ := hT.rows
        obtain ⟨ya2, yc2, rfl⟩ := own_slice hkv
        clear hkv kv hT hb hR
        have hR := hR2
        clear hR2
        refine hK.out _ _ ?qs4 (fun hHeld2 => ?rs4)
        case qs4 => ((try dsimp only); exact ⟨stepc hR.out.low hlt0 c0, stepc hR.out.low hlt0 c1⟩)
        clear hK KK hHeld
        have hHeld := hHeld2
        clear hHeld2
        try simp only [Act.put, List.setIfInBounds_toArray, List.set_cons_zero, List.set_cons_succ]
        refine wpAnyH_ready (rs := [4, 5]) (by kernel_rfl) (by simp) ?_
        refine AllReadyH.cons (o := { dst := some 7, op := Op.alloc 25, type := 0, pos := "outright.go:48", after := #[], guard := none }) rfl (fun KK hK => ?cs5) ?ms5
        case cs5 =>
          go_simp
          have hR2 := Lib.hid hR.out.alloc1
          clear hR
          have hR := hR2
          clear hR2
          refine hK.out _ _ ?qs5 (fun hHeld2 => ?rs5)
          case qs5 => ((try dsimp only); exact ⟨stepc hR.out.low hlt0 c0, stepc hR.out.low hlt0 c1⟩)
          clear hK KK hHeld
          have hHeld := hHeld2
          clear hHeld2
          try simp only [Act.put, List.setIfInBounds_toArray, List.set_cons_zero, List.set_cons_succ]
          generalize World.alloc _ (.cells #[.slice none 0 0, .slice none 0 0] 25) = X1 at *
          refine wpAnyH_ready (rs := [5]) (by kernel_rfl) (by simp) ?_
          refine AllReadyH.cons (o := { dst := some 8, op := Op.alloc 25, type := 0, pos := "outright.go:48", after := #[], guard := none }) rfl (fun KK hK => ?cs6) ?ms6
          case cs6 =>
            go_simp
            have hR2 := Lib.hid hR.out.alloc2
            clear hR
            have hR := hR2
            clear hR2
            refine hK.out _ _ ?qs6 (fun hHeld2 => ?rs6)
            case qs6 => ((try dsimp only); exact ⟨stepc hR.out.low hlt0 c0, stepc hR.out.low hlt0 c1⟩)
            clear hK KK hHeld
            have hHeld := hHeld2
            clear hHeld2
            try simp only [Act.put, List.setIfInBounds_toArray, List.set_cons_zero, List.set_cons_succ]
            generalize World.alloc _ (.cells #[.slice none 0 0, .slice none 0 0] 25) = X1 at *
            have hB := Lib.hid hR.out.both
            obtain ⟨m0, m1, n0, n1, m2, m3, n2, n3⟩ := hB.out.cells
            clear hR
            refine wpAnyH_ready (rs := [6]) (by kernel_rfl) (by simp) ?_
            refine AllReadyH.cons (o := { dst := none, op := Op.store 25 (Operand.tmp 7) (Operand.tmp 29), type := 0, pos := "outright.go:48", after := #[{ on := 4, ground := Ground.data }, { on := 1, ground := Ground.data }, { on := 3, ground := Ground.chain }, { on := 0, ground := Ground.phase }, { on := 1, ground := Ground.phase }, { on := 2, ground := Ground.textOnly Departure.lateStores }, { on := 3, ground := Ground.textOnly Departure.lateStoresUnsure }, { on := 4, ground := Ground.phase }, { on := 5, ground := Ground.phase }], guard := none }) rfl (fun KK hK => ?cs7) ?ms7
            case cs7 =>
              go_simp
              have hB2 := Lib.hid (hB.out.put1 (.slice xa1 LL.length xc1) (.slice ya1 RR.length yc1))
              clear hB m0 m1 m2 m3 n0 n1 n2 n3
              have hB := hB2
              clear hB2
              refine hK.out _ _ ?qs7 (fun hHeld2 => ?rs7)
              case qs7 => ((try dsimp only); exact ⟨stepc hB.out.low hlt0 c0, stepc hB.out.low hlt0 c1⟩)
              clear hK KK hHeld
              have hHeld := hHeld2
              clear hHeld2
              try simp only [Act.put, List.setIfInBounds_toArray, List.set_cons_zero, List.set_cons_succ]
              generalize World.setCell _ _ _ = X1 at *
              obtain ⟨m0, m1, n0, n1, m2, m3, n2, n3⟩ := hB.out.cells
              refine wpAnyH_ready (rs := [7]) (by kernel_rfl) (by simp) ?_
              refine AllReadyH.cons (o := { dst := none, op := Op.store 25 (Operand.tmp 8) (Operand.tmp 31), type := 0, pos := "outright.go:48", after := #[{ on := 5, ground := Ground.data }, { on := 3, ground := Ground.data }, { on := 6, ground := Ground.chain }, { on := 0, ground := Ground.phase }, { on := 1, ground := Ground.phase }, { on := 2, ground := Ground.phase }, { on := 3, ground := Ground.phase }, { on := 4, ground := Ground.phase }, { on := 5, ground := Ground.phase }, { on := 6, ground := Ground.phase }], guard := none }) rfl (fun KK hK => ?cs8) ?ms8
              case cs8 =>
                go_simp
                have hB2 := Lib.hid (hB.out.put2 (.slice xa2 LL.length xc2) (.slice ya2 RR.length yc2))
                clear hB m0 m1 m2 m3 n0 n1 n2 n3
                have hB := hB2
                clear hB2
                refine hK.out _ _ ?qs8 (fun hHeld2 => ?rs8)
                case qs8 => ((try dsimp only); exact ⟨stepc hB.out.low hlt0 c0, stepc hB.out.low hlt0 c1⟩)
                clear hK KK hHeld
                have hHeld := hHeld2
                clear hHeld2
                try simp only [Act.put, List.setIfInBounds_toArray, List.set_cons_zero, List.set_cons_succ]
                refine wpAnyH_done (by kernel_rfl) ?_ _
                go_wp2_with fail
                go_meet
                exact ⟨_, _, _, _, _, _, rfl, rfl, hB⟩
              case ms8 => exact AllReadyH.nil
            case ms7 => exact AllReadyH.nil
          case ms6 =>
            exact AllReadyH.nil
        case ms5 =>
          refine AllReadyH.cons (o := { dst := some 8, op := Op.alloc 25, type := 0, pos := "outright.go:48", after := #[], guard := none }) rfl (fun KK hK => ?cs9) ?ms9
          case cs9 =>
            go_simp
            have hR2 := Lib.hid hR.out.alloc2
            clear hR
            have hR := hR2
            clear hR2
            refine hK.out _ _ ?qs9 (fun hHeld2 => ?rs9)
            case qs9 => ((try dsimp only); exact ⟨stepc hR.out.low hlt0 c0, stepc hR.out.low hlt0 c1⟩)
            clear hK KK hHeld
            have hHeld := hHeld2
            clear hHeld2
            try simp only [Act.put, List.setIfInBounds_toArray, List.set_cons_zero, List.set_cons_succ]
            generalize World.alloc _ (.cells #[.slice none 0 0, .slice none 0 0] 25) = X1 at *
            refine wpAnyH_ready (rs := [4]) (by kernel_rfl) (by simp) ?_
            refine AllReadyH.cons (o := { dst := some 7, op := Op.alloc 25, type := 0, pos := "outright.go:48", after := #[], guard := none }) rfl (fun KK hK => ?cs10) ?ms10
            case cs10 =>
              go_simp
              have hR2 := Lib.hid hR.out.alloc1
              clear hR
              have hR := hR2
              clear hR2
              refine hK.out _ _ ?qs10 (fun hHeld2 => ?rs10)
              case qs10 => ((try dsimp only); exact ⟨stepc hR.out.low hlt0 c0, stepc hR.out.low hlt0 c1⟩)
              clear hK KK hHeld
              have hHeld := hHeld2
              clear hHeld2
              try simp only [Act.put, List.setIfInBounds_toArray, List.set_cons_zero, List.set_cons_succ]
              generalize World.alloc _ (.cells #[.slice none 0 0, .slice none 0 0] 25) = X1 at *
              have hB := Lib.hid hR.out.both
              obtain ⟨m0, m1, n0, n1, m2, m3, n2, n3⟩ := hB.out.cells
              clear hR
              refine wpAnyH_ready (rs := [6]) (by kernel_rfl) (by simp) ?_
              refine AllReadyH.cons (o := { dst := none, op := Op.store 25 (Operand.tmp 7) (Operand.tmp 29), type := 0, pos := "outright.go:48", after := #[{ on := 4, ground := Ground.data }, { on := 1, ground := Ground.data }, { on := 3, ground := Ground.chain }, { on := 0, ground := Ground.phase }, { on := 1, ground := Ground.phase }, { on := 2, ground := Ground.textOnly Departure.lateStores }, { on := 3, ground := Ground.textOnly Departure.lateStoresUnsure }, { on := 4, ground := Ground.phase }, { on := 5, ground := Ground.phase }], guard := none }) rfl (fun KK hK => ?cs11) ?ms11
              case cs11 =>
                go_simp
                have hB2 := Lib.hid (hB.out.put1 (.slice xa1 LL.length xc1) (.slice ya1 RR.length yc1))
                clear hB m0 m1 m2 m3 n0 n1 n2 n3
                have hB := hB2
                clear hB2
                refine hK.out _ _ ?qs11 (fun hHeld2 => ?rs11)
                case qs11 => ((try dsimp only); exact ⟨stepc hB.out.low hlt0 c0, stepc hB.out.low hlt0 c1⟩)
                clear hK KK hHeld
                have hHeld := hHeld2
                clear hHeld2
                try simp only [Act.put, List.setIfInBounds_toArray, List.set_cons_zero, List.set_cons_succ]
                generalize World.setCell _ _ _ = X1 at *
                obtain ⟨m0, m1, n0, n1, m2, m3, n2, n3⟩ := hB.out.cells
                refine wpAnyH_ready (rs := [7]) (by kernel_rfl) (by simp) ?_
                refine AllReadyH.cons (o := { dst := none, op := Op.store 25 (Operand.tmp 8) (Operand.tmp 31), type := 0, pos := "outright.go:48", after := #[{ on := 5, ground := Ground.data }, { on := 3, ground := Ground.data }, { on := 6, ground := Ground.chain }, { on := 0, ground := Ground.phase }, { on := 1, ground := Ground.phase }, { on := 2, ground := Ground.phase }, { on := 3, ground := Ground.phase }, { on := 4, ground := Ground.phase }, { on := 5, ground := Ground.phase }, { on := 6, ground := Ground.phase }], guard := none }) rfl (fun KK hK => ?cs12) ?ms12
                case cs12 =>
                  go_simp
                  have hB2 := Lib.hid (hB.out.put2 (.slice xa2 LL.length xc2) (.slice ya2 RR.length yc2))
                  clear hB m0 m1 m2 m3 n0 n1 n2 n3
                  have hB := hB2
                  clear hB2
                  refine hK.out _ _ ?qs12 (fun hHeld2 => ?rs12)
                  case qs12 => ((try dsimp only); exact ⟨stepc hB.out.low hlt0 c0, stepc hB.out.low hlt0 c1⟩)
                  clear hK KK hHeld
                  have hHeld := hHeld2
                  clear hHeld2
                  try simp only [Act.put, List.setIfInBounds_toArray, List.set_cons_zero, List.set_cons_succ]
                  refine wpAnyH_done (by kernel_rfl) ?_ _
                  go_wp2_with fail
                  go_meet
                  exact ⟨_, _, _, _, _, _, rfl, rfl, hB⟩
                case ms12 => exact AllReadyH.nil
              case ms11 => exact AllReadyH.nil
            case ms10 =>
              exact AllReadyH.nil
          case ms9 =>
            exact AllReadyH.nil
      case ms4 =>
        refine AllReadyH.cons (o := { dst := some 7, op := Op.alloc 25, type := 0, pos := "outright.go:48", after := #[], guard := none }) rfl (fun KK hK => ?cs13) ?ms13
        case cs13 =>
          go_simp
          have hR2 := Lib.hid hR.out.alloc1
          clear hR
          have hR := hR2
          clear hR2
          refine hK.out _ _ ?qs13 (fun hHeld2 => ?rs13)
          case qs13 => ((try dsimp only); exact ⟨stepc hR.out.low hlt0 c0, stepc hR.out.low hlt0 c1⟩)
          clear hK KK hHeld
          have hHeld := hHeld2
          clear hHeld2
          try simp only [Act.put, List.setIfInBounds_toArray, List.set_cons_zero, List.set_cons_succ]
          generalize World.alloc _ (.cells #[.slice none 0 0, .slice none 0 0] 25) = X1 at *
          refine wpAnyH_ready (rs := [3, 5]) (by kernel_rfl) (by simp) ?_
          refine AllReadyH.cons (o := { dst := some 31, op := Op.call { callee := Callee.value (Operand.func 10), args := #[Operand.tmp 30], argTypes := #[25] }, type := 25, pos := "outright.go:48", after := #[{ on := 2, ground := Ground.data }, { on := 1, ground := Ground.chain }], guard := none }) rfl (fun KK hK => ?cs14) ?ms14
          case cs14 =>
            go_simp
            refine (hfew.out _ (nextw hb0.out hR.out.low)).mono ?_
            rintro e X1 ⟨va, v2, rfl, hT, hb⟩
            try go_wp2_with fail
            have hR2 := Lib.hid (hR.out.call2 hT hb)
            obtain ⟨xa2, xc2, rfl⟩ := own_slice hT.bus
            obtain ⟨kv, hkv, -⟩ := hT.rows
            obtain ⟨ya2, yc2, rfl⟩ := own_slice hkv
            clear hkv kv hT hb hR
            have hR := hR2
            clear hR2
            refine hK.out _ _ ?qs14 (fun hHeld2 => ?rs14)
            case qs14 => ((try dsimp only); exact ⟨stepc hR.out.low hlt0 c0, stepc hR.out.low hlt0 c1⟩)
            clear hK KK hHeld
            have hHeld := hHeld2
            clear hHeld2
            try simp only [Act.put, List.setIfInBounds_toArray, List.set_cons_zero, List.set_cons_succ]
            refine wpAnyH_ready (rs := [5]) (by kernel_rfl) (by simp) ?_
            refine AllReadyH.cons (o := { dst := some 8, op := Op.alloc 25, type := 0, pos := "outright.go:48", after := #[], guard := none }) rfl (fun KK hK => ?cs15) ?ms15
            case cs15 =>
              go_simp
              have hR2 := Lib.hid hR.out.alloc2
              clear hR
              have hR := hR2
              clear hR2
              refine hK.out _ _ ?qs15 (fun hHeld2 => ?rs15)
              case qs15 => ((try dsimp only); exact ⟨stepc hR.out.low hlt0 c0, stepc hR.out.low hlt0 c1⟩)
              clear hK KK hHeld
              have hHeld := hHeld2
              clear hHeld2
              try simp only [Act.put, List.setIfInBounds_toArray, List.set_cons_zero, List.set_cons_succ]
              generalize World.alloc _ (.cells #[.slice none 0 0, .slice none 0 0] 25) = X1 at *
              have hB := Lib.hid hR.out.both
              obtain ⟨m0, m1, n0, n1, m2, m3, n2, n3⟩ := hB.out.cells
              clear hR
              refine wpAnyH_ready (rs := [6]) (by kernel_rfl) (by simp) ?_
              refine AllReadyH.cons (o := { dst := none, op := Op.store 25 (Operand.tmp 7) (Operand.tmp 29), type := 0, pos := "outright.go:48", after := #[{ on := 4, ground := Ground.data }, { on := 1, ground := Ground.data }, { on := 3, ground := Ground.chain }, { on := 0, ground := Ground.phase }, { on := 1, ground := Ground.phase }, { on := 2, ground := Ground.textOnly Departure.lateStores }, { on := 3, ground := Ground.textOnly Departure.lateStoresUnsure }, { on := 4, ground := Ground.phase }, { on := 5, ground := Ground.phase }], guard := none }) rfl (fun KK hK => ?cs16) ?ms16
              case cs16 =>
                go_simp
                have hB2 := Lib.hid (hB.out.put1 (.slice xa1 LL.length xc1) (.slice ya1 RR.length yc1))
                clear hB m0 m1 m2 m3 n0 n1 n2 n3
                have hB := hB2
                clear hB2
                refine hK.out _ _ ?qs16 (fun hHeld2 => ?rs16)
                case qs16 => ((try dsimp only); exact ⟨stepc hB.out.low hlt0 c0, stepc hB.out.low hlt0 c1⟩)
                clear hK KK hHeld
                have hHeld := hHeld2
                clear hHeld2
                try simp only [Act.put, List.setIfInBounds_toArray, List.set_cons_zero, List.set_cons_succ]
                generalize World.setCell _ _ _ = X1 at *
                obtain ⟨m0, m1, n0, n1, m2, m3, n2, n3⟩ := hB.out.cells
                refine wpAnyH_ready (rs := [7]) (by kernel_rfl) (by simp) ?_
                refine AllReadyH.cons (o := { dst := none, op := Op.store 25 (Operand.tmp 8) (Operand.tmp 31), type := 0, pos := "outright.go:48", after := #[{ on := 5, ground := Ground.data }, { on := 3, ground := Ground.data }, { on := 6, ground := Ground.chain }, { on := 0, ground := Ground.phase }, { on := 1, ground := Ground.phase }, { on := 2, ground := Ground.phase }, { on := 3, ground := Ground.phase }, { on := 4, ground := Ground.phase }, { on := 5, ground := Ground.phase }, { on := 6, ground := Ground.phase }], guard := none }) rfl (fun KK hK => ?cs17) ?ms17
                case cs17 =>
                  go_simp
                  have hB2 := Lib.hid (hB.out.put2 (.slice xa2 LL.length xc2) (.slice ya2 RR.length yc2))
                  clear hB m0 m1 m2 m3 n0 n1 n2 n3
                  have hB := hB2
                  clear hB2
                  refine hK.out _ _ ?qs17 (fun hHeld2 => ?rs17)
                  case qs17 => ((try dsimp only); exact ⟨stepc hB.out.low hlt0 c0, stepc hB.out.low hlt0 c1⟩)
                  clear hK KK hHeld
                  have hHeld := hHeld2
                  clear hHeld2
                  try simp only [Act.put, List.setIfInBounds_toArray, List.set_cons_zero, List.set_cons_succ]
                  refine wpAnyH_done (by kernel_rfl) ?_ _
                  go_wp2_with fail
                  go_meet
                  exact ⟨_, _, _, _, _, _, rfl, rfl, hB⟩
                case ms17 => exact AllReadyH.nil
              case ms16 => exact AllReadyH.nil
            case ms15 =>
              exact AllReadyH.nil
          case ms14 =>
            refine AllReadyH.cons (o := { dst := some 8, op := Op.alloc 25, type := 0, pos := "outright.go:48", after := #[], guard := none }) rfl (fun KK hK => ?cs18) ?ms18
            case cs18 =>
              go_simp
              have hR2 := Lib.hid hR.out.alloc2
              clear hR
              have hR := hR2
              clear hR2
              refine hK.out _ _ ?qs18 (fun hHeld2 => ?rs18)
              case qs18 => ((try dsimp only); exact ⟨stepc hR.out.low hlt0 c0, stepc hR.out.low hlt0 c1⟩)
              clear hK KK hHeld
              have hHeld := hHeld2
              clear hHeld2
              try simp only [Act.put, List.setIfInBounds_toArray, List.set_cons_zero, List.set_cons_succ]
              generalize World.alloc _ (.cells #[.slice none 0 0, .slice none 0 0] 25) = X1 at *
              refine wpAnyH_ready (rs := [3]) (by kernel_rfl) (by simp) ?_
              refine AllReadyH.cons (o := { dst := some 31, op := Op.call { callee := Callee.value (Operand.func 10), args := #[Operand.tmp 30], argTypes := #[25] }, type := 25, pos := "outright.go:48", after := #[{ on := 2, ground := Ground.data }, { on := 1, ground := Ground.chain }], guard := none }) rfl (fun KK hK => ?cs19) ?ms19
              case cs19 =>
                go_simp
                refine (hfew.out _ (nextw hb0.out hR.out.low)).mono ?_
                rintro e X1 ⟨va, v2, rfl, hT, hb⟩
                try go_wp2_with fail
                have hR2 := Lib.hid (hR.out.call2 hT hb)
                obtain ⟨xa2, xc2, rfl⟩ := own_slice hT.bus
                obtain ⟨kv, hkv, -⟩ := hT.rows
                obtain ⟨ya2, yc2, rfl⟩ := own_slice hkv
                clear hkv kv hT hb hR
                have hR := hR2
                clear hR2
                refine hK.out _ _ ?qs19 (fun hHeld2 => ?rs19)
                case qs19 => ((try dsimp only); exact ⟨stepc hR.out.low hlt0 c0, stepc hR.out.low hlt0 c1⟩)
                clear hK KK hHeld
                have hHeld := hHeld2
                clear hHeld2
                try simp only [Act.put, List.setIfInBounds_toArray, List.set_cons_zero, List.set_cons_succ]
                have hB := Lib.hid hR.out.both
                obtain ⟨m0, m1, n0, n1, m2, m3, n2, n3⟩ := hB.out.cells
                clear hR
                refine wpAnyH_ready (rs := [6]) (by kernel_rfl) (by simp) ?_
                refine AllReadyH.cons (o := { dst := none, op := Op.store 25 (Operand.tmp 7) (Operand.tmp 29), type := 0, pos := "outright.go:48", after := #[{ on := 4, ground := Ground.data }, { on := 1, ground := Ground.data }, { on := 3, ground := Ground.chain }, { on := 0, ground := Ground.phase }, { on := 1, ground := Ground.phase }, { on := 2, ground := Ground.textOnly Departure.lateStores }, { on := 3, ground := Ground.textOnly Departure.lateStoresUnsure }, { on := 4, ground := Ground.phase }, { on := 5, ground := Ground.phase }], guard := none }) rfl (fun KK hK => ?cs20) ?ms20
                case cs20 =>
                  go_simp
                  have hB2 := Lib.hid (hB.out.put1 (.slice xa1 LL.length xc1) (.slice ya1 RR.length yc1))
                  clear hB m0 m1 m2 m3 n0 n1 n2 n3
                  have hB := hB2
                  clear hB2
                  refine hK.out _ _ ?qs20 (fun hHeld2 => ?rs20)
                  case qs20 => ((try dsimp only); exact ⟨stepc hB.out.low hlt0 c0, stepc hB.out.low hlt0 c1⟩)
                  clear hK KK hHeld
                  have hHeld := hHeld2
                  clear hHeld2
                  try simp only [Act.put, List.setIfInBounds_toArray, List.set_cons_zero, List.set_cons_succ]
                  generalize World.setCell _ _ _ = X1 at *
                  obtain ⟨m0, m1, n0, n1, m2, m3, n2, n3⟩ := hB.out.cells
                  refine wpAnyH_ready (rs := [7]) (by kernel_rfl) (by simp) ?_
                  refine AllReadyH.cons (o := { dst := none, op := Op.store 25 (Operand.tmp 8) (Operand.tmp 31), type := 0, pos := "outright.go:48", after := #[{ on := 5, ground := Ground.data }, { on := 3, ground := Ground.data }, { on := 6, ground := Ground.chain }, { on := 0, ground := Ground.phase }, { on := 1, ground := Ground.phase }, { on := 2, ground := Ground.phase }, { on := 3, ground := Ground.phase }, { on := 4, ground := Ground.phase }, { on := 5, ground := Ground.phase }, { on := 6, ground := Ground.phase }], guard := none }) rfl (fun KK hK => ?cs21) ?ms21
                  case cs21 =>
                    go_simp
                    have hB2 := Lib.hid (hB.out.put2 (.slice xa2 LL.length xc2) (.slice ya2 RR.length yc2))
                    clear hB m0 m1 m2 m3 n0 n1 n2 n3
                    have hB := hB2
                    clear hB2
                    refine hK.out _ _ ?qs21 (fun hHeld2 => ?rs21)
                    case qs21 => ((try dsimp only); exact ⟨stepc hB.out.low hlt0 c0, stepc hB.out.low hlt0 c1⟩)
                    clear hK KK hHeld
                    have hHeld := hHeld2
                    clear hHeld2
                    try simp only [Act.put, List.setIfInBounds_toArray, List.set_cons_zero, List.set_cons_succ]
                    refine wpAnyH_done (by kernel_rfl) ?_ _
                    go_wp2_with fail
                    go_meet
                    exact ⟨_, _, _, _, _, _, rfl, rfl, hB⟩
                  case ms21 => exact AllReadyH.nil
                case ms20 => exact AllReadyH.nil
              case ms19 =>
                exact AllReadyH.nil
            case ms18 =>
              exact AllReadyH.nil
        case ms13 =>
          refine AllReadyH.cons (o := { dst := some 8, op := Op.alloc 25, type := 0, pos := "outright.go:48", after := #[], guard := none }) rfl (fun KK hK => ?cs22) ?ms22
          case cs22 =>
            go_simp
            have hR2 := Lib.hid hR.out.alloc2
            clear hR
            have hR := hR2
            clear hR2
            refine hK.out _ _ ?qs22 (fun hHeld2 => ?rs22)
            case qs22 => ((try dsimp only); exact ⟨stepc hR.out.low hlt0 c0, stepc hR.out.low hlt0 c1⟩)
            clear hK KK hHeld
            have hHeld := hHeld2
            clear hHeld2
            try simp only [Act.put, List.setIfInBounds_toArray, List.set_cons_zero, List.set_cons_succ]
            generalize World.alloc _ (.cells #[.slice none 0 0, .slice none 0 0] 25) = X1 at *
            refine wpAnyH_ready (rs := [3, 4]) (by kernel_rfl) (by simp) ?_
            refine AllReadyH.cons (o := { dst := some 31, op := Op.call { callee := Callee.value (Operand.func 10), args := #[Operand.tmp 30], argTypes := #[25] }, type := 25, pos := "outright.go:48", after := #[{ on := 2, ground := Ground.data }, { on := 1, ground := Ground.chain }], guard := none }) rfl (fun KK hK => ?cs23) ?ms23
            case cs23 =>
              go_simp
              refine (hfew.out _ (nextw hb0.out hR.out.low)).mono ?_
              rintro e X1 ⟨va, v2, rfl, hT, hb⟩
              try go_wp2_with fail
              have hR2 := Lib.hid (hR.out.call2 hT hb)
              obtain ⟨xa2, xc2, rfl⟩ := own_slice hT.bus
              obtain ⟨kv, hkv, -⟩ := hT.rows
              obtain ⟨ya2, yc2, rfl⟩ := own_slice hkv
              clear hkv kv hT hb hR
              have hR := hR2
              clear hR2
              refine hK.out _ _ ?qs23 (fun hHeld2 => ?rs23)
              case qs23 => ((try dsimp only); exact ⟨stepc hR.out.low hlt0 c0, stepc hR.out.low hlt0 c1⟩)
              clear hK KK hHeld
              have hHeld := hHeld2
              clear hHeld2
              try simp only [Act.put, List.setIfInBounds_toArray, List.set_cons_zero, List.set_cons_succ]
              refine wpAnyH_ready (rs := [4]) (by kernel_rfl) (by simp) ?_
              refine AllReadyH.cons (o := { dst := some 7, op := Op.alloc 25, type := 0, pos := "outright.go:48", after := #[], guard := none }) rfl (fun KK hK => ?cs24) ?ms24
              case cs24 =>
                go_simp
                have hR2 := Lib.hid hR.out.alloc1
                clear hR
                have hR := hR2
                clear hR2
                refine hK.out _ _ ?qs24 (fun hHeld2 => ?rs24)
                case qs24 => ((try dsimp only); exact ⟨stepc hR.out.low hlt0 c0, stepc hR.out.low hlt0 c1⟩)
                clear hK KK hHeld
                have hHeld := hHeld2
                clear hHeld2
                try simp only [Act.put, List.setIfInBounds_toArray, List.set_cons_zero, List.set_cons_succ]
                generalize World.alloc _ (.cells #[.slice none 0 0, .slice none 0 0] 25) = X1 at *
                have hB := Lib.hid hR.out.both
                obtain ⟨m0, m1, n0, n1, m2, m3, n2, n3⟩ := hB.out.cells
                clear hR
                refine wpAnyH_ready (rs := [6]) (by kernel_rfl) (by simp) ?_
                refine AllReadyH.cons (o := { dst := none, op := Op.store 25 (Operand.tmp 7) (Operand.tmp 29), type := 0, pos := "outright.go:48", after := #[{ on := 4, ground := Ground.data }, { on := 1, ground := Ground.data }, { on := 3, ground := Ground.chain }, { on := 0, ground := Ground.phase }, { on := 1, ground := Ground.phase }, { on := 2, ground := Ground.textOnly Departure.lateStores }, { on := 3, ground := Ground.textOnly Departure.lateStoresUnsure }, { on := 4, ground := Ground.phase }, { on := 5, ground := Ground.phase }], guard := none }) rfl (fun KK hK => ?cs25) ?ms25
                case cs25 =>
                  go_simp
                  have hB2 := Lib.hid (hB.out.put1 (.slice xa1 LL.length xc1) (.slice ya1 RR.length yc1))
                  clear hB m0 m1 m2 m3 n0 n1 n2 n3
                  have hB := hB2
                  clear hB2
                  refine hK.out _ _ ?qs25 (fun hHeld2 => ?rs25)
                  case qs25 => ((try dsimp only); exact ⟨stepc hB.out.low hlt0 c0, stepc hB.out.low hlt0 c1⟩)
                  clear hK KK hHeld
                  have hHeld := hHeld2
                  clear hHeld2
                  try simp only [Act.put, List.setIfInBounds_toArray, List.set_cons_zero, List.set_cons_succ]
                  generalize World.setCell _ _ _ = X1 at *
                  obtain ⟨m0, m1, n0, n1, m2, m3, n2, n3⟩ := hB.out.cells
                  refine wpAnyH_ready (rs := [7]) (by kernel_rfl) (by simp) ?_
                  refine AllReadyH.cons (o := { dst := none, op := Op.store 25 (Operand.tmp 8) (Operand.tmp 31), type := 0, pos := "outright.go:48", after := #[{ on := 5, ground := Ground.data }, { on := 3, ground := Ground.data }, { on := 6, ground := Ground.chain }, { on := 0, ground := Ground.phase }, { on := 1, ground := Ground.phase }, { on := 2, ground := Ground.phase }, { on := 3, ground := Ground.phase }, { on := 4, ground := Ground.phase }, { on := 5, ground := Ground.phase }, { on := 6, ground := Ground.phase }], guard := none }) rfl (fun KK hK => ?cs26) ?ms26
                  case cs26 =>
                    go_simp
                    have hB2 := Lib.hid (hB.out.put2 (.slice xa2 LL.length xc2) (.slice ya2 RR.length yc2))
                    clear hB m0 m1 m2 m3 n0 n1 n2 n3
                    have hB := hB2
                    clear hB2
                    refine hK.out _ _ ?qs26 (fun hHeld2 => ?rs26)
                    case qs26 => ((try dsimp only); exact ⟨stepc hB.out.low hlt0 c0, stepc hB.out.low hlt0 c1⟩)
                    clear hK KK hHeld
                    have hHeld := hHeld2
                    clear hHeld2
                    try simp only [Act.put, List.setIfInBounds_toArray, List.set_cons_zero, List.set_cons_succ]
                    refine wpAnyH_done (by kernel_rfl) ?_ _
                    go_wp2_with fail
                    go_meet
                    exact ⟨_, _, _, _, _, _, rfl, rfl, hB⟩
                  case ms26 => exact AllReadyH.nil
                case ms25 => exact AllReadyH.nil
              case ms24 =>
                exact AllReadyH.nil
            case ms23 =>
              refine AllReadyH.cons (o := { dst := some 7, op := Op.alloc 25, type := 0, pos := "outright.go:48", after := #[], guard := none }) rfl (fun KK hK => ?cs27) ?ms27
              case cs27 =>
                go_simp
                have hR2 := Lib.hid hR.out.alloc1
                clear hR
                have hR := hR2
                clear hR2
                refine hK.out _ _ ?qs27 (fun hHeld2 => ?rs27)
                case qs27 => ((try dsimp only); exact ⟨stepc hR.out.low hlt0 c0, stepc hR.out.low hlt0 c1⟩)
                clear hK KK hHeld
                have hHeld := hHeld2
                clear hHeld2
                try simp only [Act.put, List.setIfInBounds_toArray, List.set_cons_zero, List.set_cons_succ]
                generalize World.alloc _ (.cells #[.slice none 0 0, .slice none 0 0] 25) = X1 at *
                refine wpAnyH_ready (rs := [3]) (by kernel_rfl) (by simp) ?_
                refine AllReadyH.cons (o := { dst := some 31, op := Op.call { callee := Callee.value (Operand.func 10), args := #[Operand.tmp 30], argTypes := #[25] }, type := 25, pos := "outright.go:48", after := #[{ on := 2, ground := Ground.data }, { on := 1, ground := Ground.chain }], guard := none }) rfl (fun KK hK => ?cs28) ?ms28
                case cs28 =>
                  go_simp
                  refine (hfew.out _ (nextw hb0.out hR.out.low)).mono ?_
                  rintro e X1 ⟨va, v2, rfl, hT, hb⟩
                  try go_wp2_with fail
                  have hR2 := Lib.hid (hR.out.call2 hT hb)
                  obtain ⟨xa2, xc2, rfl⟩ := own_slice hT.bus
                  obtain ⟨kv, hkv, -⟩ := hT.rows
                  obtain ⟨ya2, yc2, rfl⟩ := own_slice hkv
                  clear hkv kv hT hb hR
                  have hR := hR2
                  clear hR2
                  refine hK.out _ _ ?qs28 (fun hHeld2 => ?rs28)
                  case qs28 => ((try dsimp only); exact ⟨stepc hR.out.low hlt0 c0, stepc hR.out.low hlt0 c1⟩)
                  clear hK KK hHeld
                  have hHeld := hHeld2
                  clear hHeld2
                  try simp only [Act.put, List.setIfInBounds_toArray, List.set_cons_zero, List.set_cons_succ]
                  have hB := Lib.hid hR.out.both
                  obtain ⟨m0, m1, n0, n1, m2, m3, n2, n3⟩ := hB.out.cells
                  clear hR
                  refine wpAnyH_ready (rs := [6]) (by kernel_rfl) (by simp) ?_
                  refine AllReadyH.cons (o := { dst := none, op := Op.store 25 (Operand.tmp 7) (Operand.tmp 29), type := 0, pos := "outright.go:48", after := #[{ on := 4, ground := Ground.data }, { on := 1, ground := Ground.data }, { on := 3, ground := Ground.chain }, { on := 0, ground := Ground.phase }, { on := 1, ground := Ground.phase }, { on := 2, ground := Ground.textOnly Departure.lateStores }, { on := 3, ground := Ground.textOnly Departure.lateStoresUnsure }, { on := 4, ground := Ground.phase }, { on := 5, ground := Ground.phase }], guard := none }) rfl (fun KK hK => ?cs29) ?ms29
                  case cs29 =>
                    go_simp
                    have hB2 := Lib.hid (hB.out.put1 (.slice xa1 LL.length xc1) (.slice ya1 RR.length yc1))
                    clear hB m0 m1 m2 m3 n0 n1 n2 n3
                    have hB := hB2
                    clear hB2
                    refine hK.out _ _ ?qs29 (fun hHeld2 => ?rs29)
                    case qs29 => ((try dsimp only); exact ⟨stepc hB.out.low hlt0 c0, stepc hB.out.low hlt0 c1⟩)
                    clear hK KK hHeld
                    have hHeld := hHeld2
                    clear hHeld2
                    try simp only [Act.put, List.setIfInBounds_toArray, List.set_cons_zero, List.set_cons_succ]
                    generalize World.setCell _ _ _ = X1 at *
                    obtain ⟨m0, m1, n0, n1, m2, m3, n2, n3⟩ := hB.out.cells
                    refine wpAnyH_ready (rs := [7]) (by kernel_rfl) (by simp) ?_
                    refine AllReadyH.cons (o := { dst := none, op := Op.store 25 (Operand.tmp 8) (Operand.tmp 31), type := 0, pos := "outright.go:48", after := #[{ on := 5, ground := Ground.data }, { on := 3, ground := Ground.data }, { on := 6, ground := Ground.chain }, { on := 0, ground := Ground.phase }, { on := 1, ground := Ground.phase }, { on := 2, ground := Ground.phase }, { on := 3, ground := Ground.phase }, { on := 4, ground := Ground.phase }, { on := 5, ground := Ground.phase }, { on := 6, ground := Ground.phase }], guard := none }) rfl (fun KK hK => ?cs30) ?ms30
                    case cs30 =>
                      go_simp
                      have hB2 := Lib.hid (hB.out.put2 (.slice xa2 LL.length xc2) (.slice ya2 RR.length yc2))
                      clear hB m0 m1 m2 m3 n0 n1 n2 n3
                      have hB := hB2
                      clear hB2
                      refine hK.out _ _ ?qs30 (fun hHeld2 => ?rs30)
                      case qs30 => ((try dsimp only); exact ⟨stepc hB.out.low hlt0 c0, stepc hB.out.low hlt0 c1⟩)
                      clear hK KK hHeld
                      have hHeld := hHeld2
                      clear hHeld2
                      try simp only [Act.put, List.setIfInBounds_toArray, List.set_cons_zero, List.set_cons_succ]
                      refine wpAnyH_done (by kernel_rfl) ?_ _
                      go_wp2_with fail
                      go_meet
                      exact ⟨_, _, _, _, _, _, rfl, rfl, hB⟩
                    case ms30 => exact AllReadyH.nil
                  case ms29 => exact AllReadyH.nil
                case ms28 =>
                  exact AllReadyH.nil
              case ms27 =>
                exact AllReadyH.nil
          case ms22 =>
            exact AllReadyH.nil
    case ms3 =>
      refine AllReadyH.cons (o := { dst := some 7, op := Op.alloc 25, type := 0, pos := "outright.go:48", after := #[], guard := none }) rfl (fun KK hK => ?cs31) ?ms31
      case cs31 =>
        go_simp
        have hR2 := Lib.hid hR.out.alloc1
        clear hR
        have hR := hR2
        clear hR2
        refine hK.out _ _ ?qs31 (fun hHeld2 => ?rs31)
        case qs31 => ((try dsimp only); exact ⟨stepc hR.out.low hlt0 c0, stepc hR.out.low hlt0 c1⟩)
        clear hK KK hHeld
        have hHeld := hHeld2
        clear hHeld2
        try simp only [Act.put, List.setIfInBounds_toArray, List.set_cons_zero, List.set_cons_succ]
        generalize World.alloc _ (.cells #[.slice none 0 0, .slice none 0 0] 25) = X1 at *
        refine wpAnyH_ready (rs := [1, 5]) (by kernel_rfl) (by simp) ?_
        refine AllReadyH.cons (o := { dst := some 29, op := Op.call { callee := Callee.value (Operand.func 10), args := #[Operand.tmp 28], argTypes := #[25] }, type := 25, pos := "outright.go:48", after := #[{ on := 0, ground := Ground.data }], guard := none }) rfl (fun KK hK => ?cs32) ?ms32
        case cs32 =>
          go_simp
          refine (hfew.out _ (nextw hb0.out hR.out.low)).mono ?_
          rintro e X1 ⟨va, v2, rfl, hT, hb⟩
          try go_wp2_with fail
          have hR2 := Lib.hid (hR.out.call1 hT hb)
          obtain ⟨xa1, xc1, rfl⟩ := own_slice hT.bus
          obtain ⟨kv, hkv, -⟩ := hT.rows
          obtain ⟨ya1, yc1, rfl⟩ := own_slice hkv
          clear hkv kv hT hb hR
          have hR := hR2
          clear hR2
          refine hK.out _ _ ?qs32 (fun hHeld2 => ?rs32)
          case qs32 => ((try dsimp only); exact ⟨stepc hR.out.low hlt0 c0, stepc hR.out.low hlt0 c1⟩)
          clear hK KK hHeld
          have hHeld := hHeld2
          clear hHeld2
          try simp only [Act.put, List.setIfInBounds_toArray, List.set_cons_zero, List.set_cons_succ]
          refine wpAnyH_ready (rs := [3, 5]) (by kernel_rfl) (by simp) ?_
          refine AllReadyH.cons (o := { dst := some 31, op := Op.call { callee := Callee.value (Operand.func 10), args := #[Operand.tmp 30], argTypes := #[25] }, type := 25, pos := "outright.go:48", after := #[{ on := 2, ground := Ground.data }, { on := 1, ground := Ground.chain }], guard := none }) rfl (fun KK hK => ?cs33) ?ms33
          case cs33 =>
            go_simp
            refine (hfew.out _ (nextw hb0.out hR.out.low)).mono ?_
            rintro e X1 ⟨va, v2, rfl, hT, hb⟩
            try go_wp2_with fail
            have hR2 := Lib.hid (hR.out.call2 hT hb)
            obtain ⟨xa2, xc2, rfl⟩ := own_slice hT.bus
            obtain ⟨kv, hkv, -⟩ := hT.rows
            obtain ⟨ya2, yc2, rfl⟩ := own_slice hkv
            clear hkv kv hT hb hR
            have hR := hR2
            clear hR2
            refine hK.out _ _ ?qs33 (fun hHeld2 => ?rs33)
            case qs33 => ((try dsimp only); exact ⟨stepc hR.out.low hlt0 c0, stepc hR.out.low hlt0 c1⟩)
            clear hK KK hHeld
            have hHeld := hHeld2
            clear hHeld2
            try simp only [Act.put, List.setIfInBounds_toArray, List.set_cons_zero, List.set_cons_succ]
            refine wpAnyH_ready (rs := [5]) (by kernel_rfl) (by simp) ?_
            refine AllReadyH.cons (o := { dst := some 8, op := Op.alloc 25, type := 0, pos := "outright.go:48", after := #[], guard := none }) rfl (fun KK hK => ?cs34) ?ms34
            case cs34 =>
              go_simp
              have hR2 := Lib.hid hR.out.alloc2
              clear hR
              have hR := hR2
              clear hR2
              refine hK.out _ _ ?qs34 (fun hHeld2 => ?rs34)
              case qs34 => ((try dsimp only); exact ⟨stepc hR.out.low hlt0 c0, stepc hR.out.low hlt0 c1⟩)
              clear hK KK hHeld
              have hHeld := hHeld2
              clear hHeld2
              try simp only [Act.put, List.setIfInBounds_toArray, List.set_cons_zero, List.set_cons_succ]
              generalize World.alloc _ (.cells #[.slice none 0 0, .slice none 0 0] 25) = X1 at *
              have hB := Lib.hid hR.out.both
              obtain ⟨m0, m1, n0, n1, m2, m3, n2, n3⟩ := hB.out.cells
              clear hR
              refine wpAnyH_ready (rs := [6]) (by kernel_rfl) (by simp) ?_
              refine AllReadyH.cons (o := { dst := none, op := Op.store 25 (Operand.tmp 7) (Operand.tmp 29), type := 0, pos := "outright.go:48", after := #[{ on := 4, ground := Ground.data }, { on := 1, ground := Ground.data }, { on := 3, ground := Ground.chain }, { on := 0, ground := Ground.phase }, { on := 1, ground := Ground.phase }, { on := 2, ground := Ground.textOnly Departure.lateStores }, { on := 3, ground := Ground.textOnly Departure.lateStoresUnsure }, { on := 4, ground := Ground.phase }, { on := 5, ground := Ground.phase }], guard := none }) rfl (fun KK hK => ?cs35) ?ms35
              case cs35 =>
                go_simp
                have hB2 := Lib.hid (hB.out.put1 (.slice xa1 LL.length xc1) (.slice ya1 RR.length yc1))
                clear hB m0 m1 m2 m3 n0 n1 n2 n3
                have hB := hB2
                clear hB2
                refine hK.out _ _ ?qs35 (fun hHeld2 => ?rs35)
                case qs35 => ((try dsimp only); exact ⟨stepc hB.out.low hlt0 c0, stepc hB.out.low hlt0 c1⟩)
                clear hK KK hHeld
                have hHeld := hHeld2
                clear hHeld2
                try simp only [Act.put, List.setIfInBounds_toArray, List.set_cons_zero, List.set_cons_succ]
                generalize World.setCell _ _ _ = X1 at *
                obtain ⟨m0, m1, n0, n1, m2, m3, n2, n3⟩ := hB.out.cells
                refine wpAnyH_ready (rs := [7]) (by kernel_rfl) (by simp) ?_
                refine AllReadyH.cons (o := { dst := none, op := Op.store 25 (Operand.tmp 8) (Operand.tmp 31), type := 0, pos := "outright.go:48", after := #[{ on := 5, ground := Ground.data }, { on := 3, ground := Ground.data }, { on := 6, ground := Ground.chain }, { on := 0, ground := Ground.phase }, { on := 1, ground := Ground.phase }, { on := 2, ground := Ground.phase }, { on := 3, ground := Ground.phase }, { on := 4, ground := Ground.phase }, { on := 5, ground := Ground.phase }, { on := 6, ground := Ground.phase }], guard := none }) rfl (fun KK hK => ?cs36) ?ms36
                case cs36 =>
                  go_simp
                  have hB2 := Lib.hid (hB.out.put2 (.slice xa2 LL.length xc2) (.slice ya2 RR.length yc2))
                  clear hB m0 m1 m2 m3 n0 n1 n2 n3
                  have hB := hB2
                  clear hB2
                  refine hK.out _ _ ?qs36 (fun hHeld2 => ?rs36)
                  case qs36 => ((try dsimp only); exact ⟨stepc hB.out.low hlt0 c0, stepc hB.out.low hlt0 c1⟩)
                  clear hK KK hHeld
                  have hHeld := hHeld2
                  clear hHeld2
                  try simp only [Act.put, List.setIfInBounds_toArray, List.set_cons_zero, List.set_cons_succ]
                  refine wpAnyH_done (by kernel_rfl) ?_ _
                  go_wp2_with fail
                  go_meet
                  exact ⟨_, _, _, _, _, _, rfl, rfl, hB⟩
                case ms36 => exact AllReadyH.nil
              case ms35 => exact AllReadyH.nil
            case ms34 =>
              exact AllReadyH.nil
          case ms33 =>
            refine AllReadyH.cons (o := { dst := some 8, op := Op.alloc 25, type := 0, pos := "outright.go:48", after := #[], guard := none }) rfl (fun KK hK => ?cs37) ?ms37
            case cs37 =>
              go_simp
              have hR2 := Lib.hid hR.out.alloc2
              clear hR
              have hR := hR2
              clear hR2
              refine hK.out _ _ ?qs37 (fun hHeld2 => ?rs37)
              case qs37 => ((try dsimp only); exact ⟨stepc hR.out.low hlt0 c0, stepc hR.out.low hlt0 c1⟩)
              clear hK KK hHeld
              have hHeld := hHeld2
              clear hHeld2
              try simp only [Act.put, List.setIfInBounds_toArray, List.set_cons_zero, List.set_cons_succ]
              generalize World.alloc _ (.cells #[.slice none 0 0, .slice none 0 0] 25) = X1 at *
              refine wpAnyH_ready (rs := [3]) (by kernel_rfl) (by simp) ?_
              refine AllReadyH.cons (o := { dst := some 31, op := Op.call { callee := Callee.value (Operand.func 10), args := #[Operand.tmp 30], argTypes := #[25] }, type := 25, pos := "outright.go:48", after := #[{ on := 2, ground := Ground.data }, { on := 1, ground := Ground.chain }], guard := none }) rfl (fun KK hK => ?cs38) ?ms38
              case cs38 =>
                go_simp
                refine (hfew.out _ (nextw hb0.out hR.out.low)).mono ?_
                rintro e X1 ⟨va, v2, rfl, hT, hb⟩
                try go_wp2_with fail
                have hR2 := Lib.hid (hR.out.call2 hT hb)
                obtain ⟨xa2, xc2, rfl⟩ := own_slice hT.bus
                obtain ⟨kv, hkv, -⟩ := hT.rows
                obtain ⟨ya2, yc2, rfl⟩ := own_slice hkv
                clear hkv kv hT hb hR
                have hR := hR2
                clear hR2
                refine hK.out _ _ ?qs38 (fun hHeld2 => ?rs38)
                case qs38 => ((try dsimp only); exact ⟨stepc hR.out.low hlt0 c0, stepc hR.out.low hlt0 c1⟩)
                clear hK KK hHeld
                have hHeld := hHeld2
                clear hHeld2
                try simp only [Act.put, List.setIfInBounds_toArray, List.set_cons_zero, List.set_cons_succ]
                have hB := Lib.hid hR.out.both
                obtain ⟨m0, m1, n0, n1, m2, m3, n2, n3⟩ := hB.out.cells
                clear hR
                refine wpAnyH_ready (rs := [6]) (by kernel_rfl) (by simp) ?_
                refine AllReadyH.cons (o := { dst := none, op := Op.store 25 (Operand.tmp 7) (Operand.tmp 29), type := 0, pos := "outright.go:48", after := #[{ on := 4, ground := Ground.data }, { on := 1, ground := Ground.data }, { on := 3, ground := Ground.chain }, { on := 0, ground := Ground.phase }, { on := 1, ground := Ground.phase }, { on := 2, ground := Ground.textOnly Departure.lateStores }, { on := 3, ground := Ground.textOnly Departure.lateStoresUnsure }, { on := 4, ground := Ground.phase }, { on := 5, ground := Ground.phase }], guard := none }) rfl (fun KK hK => ?cs39) ?ms39
                case cs39 =>
                  go_simp
                  have hB2 := Lib.hid (hB.out.put1 (.slice xa1 LL.length xc1) (.slice ya1 RR.length yc1))
                  clear hB m0 m1 m2 m3 n0 n1 n2 n3
                  have hB := hB2
                  clear hB2
                  refine hK.out _ _ ?qs39 (fun hHeld2 => ?rs39)
                  case qs39 => ((try dsimp only); exact ⟨stepc hB.out.low hlt0 c0, stepc hB.out.low hlt0 c1⟩)
                  clear hK KK hHeld
                  have hHeld := hHeld2
                  clear hHeld2
                  try simp only [Act.put, List.setIfInBounds_toArray, List.set_cons_zero, List.set_cons_succ]
                  generalize World.setCell _ _ _ = X1 at *
                  obtain ⟨m0, m1, n0, n1, m2, m3, n2, n3⟩ := hB.out.cells
                  refine wpAnyH_ready (rs := [7]) (by kernel_rfl) (by simp) ?_
                  refine AllReadyH.cons (o := { dst := none, op := Op.store 25 (Operand.tmp 8) (Operand.tmp 31), type := 0, pos := "outright.go:48", after := #[{ on := 5, ground := Ground.data }, { on := 3, ground := Ground.data }, { on := 6, ground := Ground.chain }, { on := 0, ground := Ground.phase }, { on := 1, ground := Ground.phase }, { on := 2, ground := Ground.phase }, { on := 3, ground := Ground.phase }, { on := 4, ground := Ground.phase }, { on := 5, ground := Ground.phase }, { on := 6, ground := Ground.phase }], guard := none }) rfl (fun KK hK => ?cs40) ?ms40
                  case cs40 =>
                    go_simp
                    have hB2 := Lib.hid (hB.out.put2 (.slice xa2 LL.length xc2) (.slice ya2 RR.length yc2))
                    clear hB m0 m1 m2 m3 n0 n1 n2 n3
                    have hB := hB2
                    clear hB2
                    refine hK.out _ _ ?qs40 (fun hHeld2 => ?rs40)
                    case qs40 => ((try dsimp only); exact ⟨stepc hB.out.low hlt0 c0, stepc hB.out.low hlt0 c1⟩)
                    clear hK KK hHeld
                    have hHeld := hHeld2
                    clear hHeld2
                    try simp only [Act.put, List.setIfInBounds_toArray, List.set_cons_zero, List.set_cons_succ]
                    refine wpAnyH_done (by kernel_rfl) ?_ _
                    go_wp2_with fail
                    go_meet
                    exact ⟨_, _, _, _, _, _, rfl, rfl, hB⟩
                  case ms40 => exact AllReadyH.nil
                case ms39 => exact AllReadyH.nil
              case ms38 =>
                exact AllReadyH.nil
            case ms37 =>
              exact AllReadyH.nil
        case ms32 =>
          refine AllReadyH.cons (o := { dst := some 8, op := Op.alloc 25, type := 0, pos := "outright.go:48", after := #[], guard := none }) rfl (fun KK hK => ?cs41) ?ms41
          case cs41 =>
            go_simp
            have hR2 := Lib.hid hR.out.alloc2
            clear hR
            have hR := hR2
            clear hR2
            refine hK.out _ _ ?qs41 (fun hHeld2 => ?rs41)
            case qs41 => ((try dsimp only); exact ⟨stepc hR.out.low hlt0 c0, stepc hR.out.low hlt0 c1⟩)
            clear hK KK hHeld
            have hHeld := hHeld2
            clear hHeld2
            try simp only [Act.put, List.setIfInBounds_toArray, List.set_cons_zero, List.set_cons_succ]
            generalize World.alloc _ (.cells #[.slice none 0 0, .slice none 0 0] 25) = X1 at *
            refine wpAnyH_ready (rs := [1]) (by kernel_rfl) (by simp) ?_
            refine AllReadyH.cons (o := { dst := some 29, op := Op.call { callee := Callee.value (Operand.func 10), args := #[Operand.tmp 28], argTypes := #[25] }, type := 25, pos := "outright.go:48", after := #[{ on := 0, ground := Ground.data }], guard := none }) rfl (fun KK hK => ?cs42) ?ms42
            case cs42 =>
              go_simp
              refine (hfew.out _ (nextw hb0.out hR.out.low)).mono ?_
              rintro e X1 ⟨va, v2, rfl, hT, hb⟩
              try go_wp2_with fail
              have hR2 := Lib.hid (hR.out.call1 hT hb)
              obtain ⟨xa1, xc1, rfl⟩ := own_slice hT.bus
              obtain ⟨kv, hkv, -⟩ := hT.rows
              obtain ⟨ya1, yc1, rfl⟩ := own_slice hkv
              clear hkv kv hT hb hR
              have hR := hR2
              clear hR2
              refine hK.out _ _ ?qs42 (fun hHeld2 => ?rs42)
              case qs42 => ((try dsimp only); exact ⟨stepc hR.out.low hlt0 c0, stepc hR.out.low hlt0 c1⟩)
              clear hK KK hHeld
              have hHeld := hHeld2
              clear hHeld2
              try simp only [Act.put, List.setIfInBounds_toArray, List.set_cons_zero, List.set_cons_succ]
              refine wpAnyH_ready (rs := [3]) (by kernel_rfl) (by simp) ?_
              refine AllReadyH.cons (o := { dst := some 31, op := Op.call { callee := Callee.value (Operand.func 10), args := #[Operand.tmp 30], argTypes := #[25] }, type := 25, pos := "outright.go:48", after := #[{ on := 2, ground := Ground.data }, { on := 1, ground := Ground.chain }], guard := none }) rfl (fun KK hK => ?cs43) ?ms43
              case cs43 =>
                go_simp
                refine (hfew.out _ (nextw hb0.out hR.out.low)).mono ?_
                rintro e X1 ⟨va, v2, rfl, hT, hb⟩
                try go_wp2_with fail
                have hR2 := Lib.hid (hR.out.call2 hT hb)
                obtain ⟨xa2, xc2, rfl⟩ := own_slice hT.bus
                obtain ⟨kv, hkv, -⟩ := hT.rows
                obtain ⟨ya2, yc2, rfl⟩ := own_slice hkv
                clear hkv kv hT hb hR
                have hR := hR2
                clear hR2
                refine hK.out _ _ ?qs43 (fun hHeld2 => ?rs43)
                case qs43 => ((try dsimp only); exact ⟨stepc hR.out.low hlt0 c0, stepc hR.out.low hlt0 c1⟩)
                clear hK KK hHeld
                have hHeld := hHeld2
                clear hHeld2
                try simp only [Act.put, List.setIfInBounds_toArray, List.set_cons_zero, List.set_cons_succ]
                have hB := Lib.hid hR.out.both
                obtain ⟨m0, m1, n0, n1, m2, m3, n2, n3⟩ := hB.out.cells
                clear hR
                refine wpAnyH_ready (rs := [6]) (by kernel_rfl) (by simp) ?_
                refine AllReadyH.cons (o := { dst := none, op := Op.store 25 (Operand.tmp 7) (Operand.tmp 29), type := 0, pos := "outright.go:48", after := #[{ on := 4, ground := Ground.data }, { on := 1, ground := Ground.data }, { on := 3, ground := Ground.chain }, { on := 0, ground := Ground.phase }, { on := 1, ground := Ground.phase }, { on := 2, ground := Ground.textOnly Departure.lateStores }, { on := 3, ground := Ground.textOnly Departure.lateStoresUnsure }, { on := 4, ground := Ground.phase }, { on := 5, ground := Ground.phase }], guard := none }) rfl (fun KK hK => ?cs44) ?ms44
                case cs44 =>
                  go_simp
                  have hB2 := Lib.hid (hB.out.put1 (.slice xa1 LL.length xc1) (.slice ya1 RR.length yc1))
                  clear hB m0 m1 m2 m3 n0 n1 n2 n3
                  have hB := hB2
                  clear hB2
                  refine hK.out _ _ ?qs44 (fun hHeld2 => ?rs44)
                  case qs44 => ((try dsimp only); exact ⟨stepc hB.out.low hlt0 c0, stepc hB.out.low hlt0 c1⟩)
                  clear hK KK hHeld
                  have hHeld := hHeld2
                  clear hHeld2
                  try simp only [Act.put, List.setIfInBounds_toArray, List.set_cons_zero, List.set_cons_succ]
                  generalize World.setCell _ _ _ = X1 at *
                  obtain ⟨m0, m1, n0, n1, m2, m3, n2, n3⟩ := hB.out.cells
                  refine wpAnyH_ready (rs := [7]) (by kernel_rfl) (by simp) ?_
                  refine AllReadyH.cons (o := { dst := none, op := Op.store 25 (Operand.tmp 8) (Operand.tmp 31), type := 0, pos := "outright.go:48", after := #[{ on := 5, ground := Ground.data }, { on := 3, ground := Ground.data }, { on := 6, ground := Ground.chain }, { on := 0, ground := Ground.phase }, { on := 1, ground := Ground.phase }, { on := 2, ground := Ground.phase }, { on := 3, ground := Ground.phase }, { on := 4, ground := Ground.phase }, { on := 5, ground := Ground.phase }, { on := 6, ground := Ground.phase }], guard := none }) rfl (fun KK hK => ?cs45) ?ms45
                  case cs45 =>
                    go_simp
                    have hB2 := Lib.hid (hB.out.put2 (.slice xa2 LL.length xc2) (.slice ya2 RR.length yc2))
                    clear hB m0 m1 m2 m3 n0 n1 n2 n3
                    have hB := hB2
                    clear hB2
                    refine hK.out _ _ ?qs45 (fun hHeld2 => ?rs45)
                    case qs45 => ((try dsimp only); exact ⟨stepc hB.out.low hlt0 c0, stepc hB.out.low hlt0 c1⟩)
                    clear hK KK hHeld
                    have hHeld := hHeld2
                    clear hHeld2
                    try simp only [Act.put, List.setIfInBounds_toArray, List.set_cons_zero, List.set_cons_succ]
                    refine wpAnyH_done (by kernel_rfl) ?_ _
                    go_wp2_with fail
                    go_meet
                    exact ⟨_, _, _, _, _, _, rfl, rfl, hB⟩
                  case ms45 => exact AllReadyH.nil
                case ms44 => exact AllReadyH.nil
              case ms43 =>
                exact AllReadyH.nil
            case ms42 =>
              exact AllReadyH.nil
          case ms41 =>
            exact AllReadyH.nil
      case ms31 =>
        refine AllReadyH.cons (o := { dst := some 8, op := Op.alloc 25, type := 0, pos := "outright.go:48", after := #[], guard := none }) rfl (fun KK hK => ?cs46) ?ms46
        case cs46 =>
          go_simp
          have hR2 := Lib.hid hR.out.alloc2
          clear hR
          have hR := hR2
          clear hR2
          refine hK.out _ _ ?qs46 (fun hHeld2 => ?rs46)
          case qs46 => ((try dsimp only); exact ⟨stepc hR.out.low hlt0 c0, stepc hR.out.low hlt0 c1⟩)
          clear hK KK hHeld
          have hHeld := hHeld2
          clear hHeld2
          try simp only [Act.put, List.setIfInBounds_toArray, List.set_cons_zero, List.set_cons_succ]
          generalize World.alloc _ (.cells #[.slice none 0 0, .slice none 0 0] 25) = X1 at *
          refine wpAnyH_ready (rs := [1, 4]) (by kernel_rfl) (by simp) ?_
          refine AllReadyH.cons (o := { dst := some 29, op := Op.call { callee := Callee.value (Operand.func 10), args := #[Operand.tmp 28], argTypes := #[25] }, type := 25, pos := "outright.go:48", after := #[{ on := 0, ground := Ground.data }], guard := none }) rfl (fun KK hK => ?cs47) ?ms47
          case cs47 =>
            go_simp
            refine (hfew.out _ (nextw hb0.out hR.out.low)).mono ?_
            rintro e X1 ⟨va, v2, rfl, hT, hb⟩
            try go_wp2_with fail
            have hR2 := Lib.hid (hR.out.call1 hT hb)
            obtain ⟨xa1, xc1, rfl⟩ := own_slice hT.bus
            obtain ⟨kv, hkv, -⟩ := hT.rows
            obtain ⟨ya1, yc1, rfl⟩ := own_slice hkv
            clear hkv kv hT hb hR
            have hR := hR2
            clear hR2
            refine hK.out _ _ ?qs47 (fun hHeld2 => ?rs47)
            case qs47 => ((try dsimp only); exact ⟨stepc hR.out.low hlt0 c0, stepc hR.out.low hlt0 c1⟩)
            clear hK KK hHeld
            have hHeld := hHeld2
            clear hHeld2
            try simp only [Act.put, List.setIfInBounds_toArray, List.set_cons_zero, List.set_cons_succ]
            refine wpAnyH_ready (rs := [3, 4]) (by kernel_rfl) (by simp) ?_
            refine AllReadyH.cons (o := { dst := some 31, op := Op.call { callee := Callee.value (Operand.func 10), args := #[Operand.tmp 30], argTypes := #[25] }, type := 25, pos := "outright.go:48", after := #[{ on := 2, ground := Ground.data }, { on := 1, ground := Ground.chain }], guard := none }) rfl (fun KK hK => ?cs48) ?ms48
            case cs48 =>
              go_simp
              refine (hfew.out _ (nextw hb0.out hR.out.low)).mono ?_
              rintro e X1 ⟨va, v2, rfl, hT, hb⟩
              try go_wp2_with fail
              have hR2 := Lib.hid (hR.out.call2 hT hb)
              obtain ⟨xa2, xc2, rfl⟩ := own_slice hT.bus
              obtain ⟨kv, hkv, -⟩ := hT.rows
              obtain ⟨ya2, yc2, rfl⟩ := own_slice hkv
              clear hkv kv hT hb hR
              have hR := hR2
              clear hR2
              refine hK.out _ _ ?qs48 (fun hHeld2 => ?rs48)
              case qs48 => ((try dsimp only); exact ⟨stepc hR.out.low hlt0 c0, stepc hR.out.low hlt0 c1⟩)
              clear hK KK hHeld
              have hHeld := hHeld2
              clear hHeld2
              try simp only [Act.put, List.setIfInBounds_toArray, List.set_cons_zero, List.set_cons_succ]
              refine wpAnyH_ready (rs := [4]) (by kernel_rfl) (by simp) ?_
              refine AllReadyH.cons (o := { dst := some 7, op := Op.alloc 25, type := 0, pos := "outright.go:48", after := #[], guard := none }) rfl (fun KK hK => ?cs49) ?ms49
              case cs49 =>
                go_simp
                have hR2 := Lib.hid hR.out.alloc1
                clear hR
                have hR := hR2
                clear hR2
                refine hK.out _ _ ?qs49 (fun hHeld2 => ?rs49)
                case qs49 => ((try dsimp only); exact ⟨stepc hR.out.low hlt0 c0, stepc hR.out.low hlt0 c1⟩)
                clear hK KK hHeld
                have hHeld := hHeld2
                clear hHeld2
                try simp only [Act.put, List.setIfInBounds_toArray, List.set_cons_zero, List.set_cons_succ]
                generalize World.alloc _ (.cells #[.slice none 0 0, .slice none 0 0] 25) = X1 at *
                have hB := Lib.hid hR.out.both
                obtain ⟨m0, m1, n0, n1, m2, m3, n2, n3⟩ := hB.out.cells
                clear hR
                refine wpAnyH_ready (rs := [6]) (by kernel_rfl) (by simp) ?_
                refine AllReadyH.cons (o := { dst := none, op := Op.store 25 (Operand.tmp 7) (Operand.tmp 29), type := 0, pos := "outright.go:48", after := #[{ on := 4, ground := Ground.data }, { on := 1, ground := Ground.data }, { on := 3, ground := Ground.chain }, { on := 0, ground := Ground.phase }, { on := 1, ground := Ground.phase }, { on := 2, ground := Ground.textOnly Departure.lateStores }, { on := 3, ground := Ground.textOnly Departure.lateStoresUnsure }, { on := 4, ground := Ground.phase }, { on := 5, ground := Ground.phase }], guard := none }) rfl (fun KK hK => ?cs50) ?ms50
                case cs50 =>
                  go_simp
                  have hB2 := Lib.hid (hB.out.put1 (.slice xa1 LL.length xc1) (.slice ya1 RR.length yc1))
                  clear hB m0 m1 m2 m3 n0 n1 n2 n3
                  have hB := hB2
                  clear hB2
                  refine hK.out _ _ ?qs50 (fun hHeld2 => ?rs50)
                  case qs50 => ((try dsimp only); exact ⟨stepc hB.out.low hlt0 c0, stepc hB.out.low hlt0 c1⟩)
                  clear hK KK hHeld
                  have hHeld := hHeld2
                  clear hHeld2
                  try simp only [Act.put, List.setIfInBounds_toArray, List.set_cons_zero, List.set_cons_succ]
                  generalize World.setCell _ _ _ = X1 at *
                  obtain ⟨m0, m1, n0, n1, m2, m3, n2, n3⟩ := hB.out.cells
                  refine wpAnyH_ready (rs := [7]) (by kernel_rfl) (by simp) ?_
                  refine AllReadyH.cons (o := { dst := none, op := Op.store 25 (Operand.tmp 8) (Operand.tmp 31), type := 0, pos := "outright.go:48", after := #[{ on := 5, ground := Ground.data }, { on := 3, ground := Ground.data }, { on := 6, ground := Ground.chain }, { on := 0, ground := Ground.phase }, { on := 1, ground := Ground.phase }, { on := 2, ground := Ground.phase }, { on := 3, ground := Ground.phase }, { on := 4, ground := Ground.phase }, { on := 5, ground := Ground.phase }, { on := 6, ground := Ground.phase }], guard := none }) rfl (fun KK hK => ?cs51) ?ms51
                  case cs51 =>
                    go_simp
                    have hB2 := Lib.hid (hB.out.put2 (.slice xa2 LL.length xc2) (.slice ya2 RR.length yc2))
                    clear hB m0 m1 m2 m3 n0 n1 n2 n3
                    have hB := hB2
                    clear hB2
                    refine hK.out _ _ ?qs51 (fun hHeld2 => ?rs51)
                    case qs51 => ((try dsimp only); exact ⟨stepc hB.out.low hlt0 c0, stepc hB.out.low hlt0 c1⟩)
                    clear hK KK hHeld
                    have hHeld := hHeld2
                    clear hHeld2
                    try simp only [Act.put, List.setIfInBounds_toArray, List.set_cons_zero, List.set_cons_succ]
                    refine wpAnyH_done (by kernel_rfl) ?_ _
                    go_wp2_with fail
                    go_meet
                    exact ⟨_, _, _, _, _, _, rfl, rfl, hB⟩
                  case ms51 => exact AllReadyH.nil
                case ms50 => exact AllReadyH.nil
              case ms49 =>
                exact AllReadyH.nil
            case ms48 =>
              refine AllReadyH.cons (o := { dst := some 7, op := Op.alloc 25, type := 0, pos := "outright.go:48", after := #[], guard := none }) rfl (fun KK hK => ?cs52) ?ms52
              case cs52 =>
                go_simp
                have hR2 := Lib.hid hR.out.alloc1
                clear hR
                have hR := hR2
                clear hR2
                refine hK.out _ _ ?qs52 (fun hHeld2 => ?rs52)
                case qs52 => ((try dsimp only); exact ⟨stepc hR.out.low hlt0 c0, stepc hR.out.low hlt0 c1⟩)
                clear hK KK hHeld
                have hHeld := hHeld2
                clear hHeld2
                try simp only [Act.put, List.setIfInBounds_toArray, List.set_cons_zero, List.set_cons_succ]
                generalize World.alloc _ (.cells #[.slice none 0 0, .slice none 0 0] 25) = X1 at *
                refine wpAnyH_ready (rs := [3]) (by kernel_rfl) (by simp) ?_
                refine AllReadyH.cons (o := { dst := some 31, op := Op.call { callee := Callee.value (Operand.func 10), args := #[Operand.tmp 30], argTypes := #[25] }, type := 25, pos := "outright.go:48", after := #[{ on := 2, ground := Ground.data }, { on := 1, ground := Ground.chain }], guard := none }) rfl (fun KK hK => ?cs53) ?ms53
                case cs53 =>
                  go_simp
                  refine (hfew.out _ (nextw hb0.out hR.out.low)).mono ?_
                  rintro e X1 ⟨va, v2, rfl, hT, hb⟩
                  try go_wp2_with fail
                  have hR2 := Lib.hid (hR.out.call2 hT hb)
                  obtain ⟨xa2, xc2, rfl⟩ := own_slice hT.bus
                  obtain ⟨kv, hkv, -⟩ := hT.rows
                  obtain ⟨ya2, yc2, rfl⟩ := own_slice hkv
                  clear hkv kv hT hb hR
                  have hR := hR2
                  clear hR2
                  refine hK.out _ _ ?qs53 (fun hHeld2 => ?rs53)
                  case qs53 => ((try dsimp only); exact ⟨stepc hR.out.low hlt0 c0, stepc hR.out.low hlt0 c1⟩)
                  clear hK KK hHeld
                  have hHeld := hHeld2
                  clear hHeld2
                  try simp only [Act.put, List.setIfInBounds_toArray, List.set_cons_zero, List.set_cons_succ]
                  have hB := Lib.hid hR.out.both
                  obtain ⟨m0, m1, n0, n1, m2, m3, n2, n3⟩ := hB.out.cells
                  clear hR
                  refine wpAnyH_ready (rs := [6]) (by kernel_rfl) (by simp) ?_
                  refine AllReadyH.cons (o := { dst := none, op := Op.store 25 (Operand.tmp 7) (Operand.tmp 29), type := 0, pos := "outright.go:48", after := #[{ on := 4, ground := Ground.data }, { on := 1, ground := Ground.data }, { on := 3, ground := Ground.chain }, { on := 0, ground := Ground.phase }, { on := 1, ground := Ground.phase }, { on := 2, ground := Ground.textOnly Departure.lateStores }, { on := 3, ground := Ground.textOnly Departure.lateStoresUnsure }, { on := 4, ground := Ground.phase }, { on := 5, ground := Ground.phase }], guard := none }) rfl (fun KK hK => ?cs54) ?ms54
                  case cs54 =>
                    go_simp
                    have hB2 := Lib.hid (hB.out.put1 (.slice xa1 LL.length xc1) (.slice ya1 RR.length yc1))
                    clear hB m0 m1 m2 m3 n0 n1 n2 n3
                    have hB := hB2
                    clear hB2
                    refine hK.out _ _ ?qs54 (fun hHeld2 => ?rs54)
                    case qs54 => ((try dsimp only); exact ⟨stepc hB.out.low hlt0 c0, stepc hB.out.low hlt0 c1⟩)
                    clear hK KK hHeld
                    have hHeld := hHeld2
                    clear hHeld2
                    try simp only [Act.put, List.setIfInBounds_toArray, List.set_cons_zero, List.set_cons_succ]
                    generalize World.setCell _ _ _ = X1 at *
                    obtain ⟨m0, m1, n0, n1, m2, m3, n2, n3⟩ := hB.out.cells
                    refine wpAnyH_ready (rs := [7]) (by kernel_rfl) (by simp) ?_
                    refine AllReadyH.cons (o := { dst := none, op := Op.store 25 (Operand.tmp 8) (Operand.tmp 31), type := 0, pos := "outright.go:48", after := #[{ on := 5, ground := Ground.data }, { on := 3, ground := Ground.data }, { on := 6, ground := Ground.chain }, { on := 0, ground := Ground.phase }, { on := 1, ground := Ground.phase }, { on := 2, ground := Ground.phase }, { on := 3, ground := Ground.phase }, { on := 4, ground := Ground.phase }, { on := 5, ground := Ground.phase }, { on := 6, ground := Ground.phase }], guard := none }) rfl (fun KK hK => ?cs55) ?ms55
                    case cs55 =>
                      go_simp
                      have hB2 := Lib.hid (hB.out.put2 (.slice xa2 LL.length xc2) (.slice ya2 RR.length yc2))
                      clear hB m0 m1 m2 m3 n0 n1 n2 n3
                      have hB := hB2
                      clear hB2
                      refine hK.out _ _ ?qs55 (fun hHeld2 => ?rs55)
                      case qs55 => ((try dsimp only); exact ⟨stepc hB.out.low hlt0 c0, stepc hB.out.low hlt0 c1⟩)
                      clear hK KK hHeld
                      have hHeld := hHeld2
                      clear hHeld2
                      try simp only [Act.put, List.setIfInBounds_toArray, List.set_cons_zero, List.set_cons_succ]
                      refine wpAnyH_done (by kernel_rfl) ?_ _
                      go_wp2_with fail
                      go_meet
                      exact ⟨_, _, _, _, _, _, rfl, rfl, hB⟩
                    case ms55 => exact AllReadyH.nil
                  case ms54 => exact AllReadyH.nil
                case ms53 =>
                  exact AllReadyH.nil
              case ms52 =>
                exact AllReadyH.nil
          case ms47 =>
            refine AllReadyH.cons (o := { dst := some 7, op := Op.alloc 25, type := 0, pos := "outright.go:48", after := #[], guard := none }) rfl (fun KK hK => ?cs56) ?ms56
            case cs56 =>
              go_simp
              have hR2 := Lib.hid hR.out.alloc1
              clear hR
              have hR := hR2
              clear hR2
              refine hK.out _ _ ?qs56 (fun hHeld2 => ?rs56)
              case qs56 => ((try dsimp only); exact ⟨stepc hR.out.low hlt0 c0, stepc hR.out.low hlt0 c1⟩)
              clear hK KK hHeld
              have hHeld := hHeld2
              clear hHeld2
              try simp only [Act.put, List.setIfInBounds_toArray, List.set_cons_zero, List.set_cons_succ]
              generalize World.alloc _ (.cells #[.slice none 0 0, .slice none 0 0] 25) = X1 at *
              refine wpAnyH_ready (rs := [1]) (by kernel_rfl) (by simp) ?_
              refine AllReadyH.cons (o := { dst := some 29, op := Op.call { callee := Callee.value (Operand.func 10), args := #[Operand.tmp 28], argTypes := #[25] }, type := 25, pos := "outright.go:48", after := #[{ on := 0, ground := Ground.data }], guard := none }) rfl (fun KK hK => ?cs57) ?ms57
              case cs57 =>
                go_simp
                refine (hfew.out _ (nextw hb0.out hR.out.low)).mono ?_
                rintro e X1 ⟨va, v2, rfl, hT, hb⟩
                try go_wp2_with fail
                have hR2 := Lib.hid (hR.out.call1 hT hb)
                obtain ⟨xa1, xc1, rfl⟩ := own_slice hT.bus
                obtain ⟨kv, hkv, -⟩ := hT.rows
                obtain ⟨ya1, yc1, rfl⟩ := own_slice hkv
                clear hkv kv hT hb hR
                have hR := hR2
                clear hR2
                refine hK.out _ _ ?qs57 (fun hHeld2 => ?rs57)
                case qs57 => ((try dsimp only); exact ⟨stepc hR.out.low hlt0 c0, stepc hR.out.low hlt0 c1⟩)
                clear hK KK hHeld
                have hHeld := hHeld2
                clear hHeld2
                try simp only [Act.put, List.setIfInBounds_toArray, List.set_cons_zero, List.set_cons_succ]
                refine wpAnyH_ready (rs := [3]) (by kernel_rfl) (by simp) ?_
                refine AllReadyH.cons (o := { dst := some 31, op := Op.call { callee := Callee.value (Operand.func 10), args := #[Operand.tmp 30], argTypes := #[25] }, type := 25, pos := "outright.go:48", after := #[{ on := 2, ground := Ground.data }, { on := 1, ground := Ground.chain }], guard := none }) rfl (fun KK hK => ?cs58) ?ms58
                case cs58 =>
                  go_simp
                  refine (hfew.out _ (nextw hb0.out hR.out.low)).mono ?_
                  rintro e X1 ⟨va, v2, rfl, hT, hb⟩
                  try go_wp2_with fail
                  have hR2 := Lib.hid (hR.out.call2 hT hb)
                  obtain ⟨xa2, xc2, rfl⟩ := own_slice hT.bus
                  obtain ⟨kv, hkv, -⟩ := hT.rows
                  obtain ⟨ya2, yc2, rfl⟩ := own_slice hkv
                  clear hkv kv hT hb hR
                  have hR := hR2
                  clear hR2
                  refine hK.out _ _ ?qs58 (fun hHeld2 => ?rs58)
                  case qs58 => ((try dsimp only); exact ⟨stepc hR.out.low hlt0 c0, stepc hR.out.low hlt0 c1⟩)
                  clear hK KK hHeld
                  have hHeld := hHeld2
                  clear hHeld2
                  try simp only [Act.put, List.setIfInBounds_toArray, List.set_cons_zero, List.set_cons_succ]
                  have hB := Lib.hid hR.out.both
                  obtain ⟨m0, m1, n0, n1, m2, m3, n2, n3⟩ := hB.out.cells
                  clear hR
                  refine wpAnyH_ready (rs := [6]) (by kernel_rfl) (by simp) ?_
                  refine AllReadyH.cons (o := { dst := none, op := Op.store 25 (Operand.tmp 7) (Operand.tmp 29), type := 0, pos := "outright.go:48", after := #[{ on := 4, ground := Ground.data }, { on := 1, ground := Ground.data }, { on := 3, ground := Ground.chain }, { on := 0, ground := Ground.phase }, { on := 1, ground := Ground.phase }, { on := 2, ground := Ground.textOnly Departure.lateStores }, { on := 3, ground := Ground.textOnly Departure.lateStoresUnsure }, { on := 4, ground := Ground.phase }, { on := 5, ground := Ground.phase }], guard := none }) rfl (fun KK hK => ?cs59) ?ms59
                  case cs59 =>
                    go_simp
                    have hB2 := Lib.hid (hB.out.put1 (.slice xa1 LL.length xc1) (.slice ya1 RR.length yc1))
                    clear hB m0 m1 m2 m3 n0 n1 n2 n3
                    have hB := hB2
                    clear hB2
                    refine hK.out _ _ ?qs59 (fun hHeld2 => ?rs59)
                    case qs59 => ((try dsimp only); exact ⟨stepc hB.out.low hlt0 c0, stepc hB.out.low hlt0 c1⟩)
                    clear hK KK hHeld
                    have hHeld := hHeld2
                    clear hHeld2
                    try simp only [Act.put, List.setIfInBounds_toArray, List.set_cons_zero, List.set_cons_succ]
                    generalize World.setCell _ _ _ = X1 at *
                    obtain ⟨m0, m1, n0, n1, m2, m3, n2, n3⟩ := hB.out.cells
                    refine wpAnyH_ready (rs := [7]) (by kernel_rfl) (by simp) ?_
                    refine AllReadyH.cons (o := { dst := none, op := Op.store 25 (Operand.tmp 8) (Operand.tmp 31), type := 0, pos := "outright.go:48", after := #[{ on := 5, ground := Ground.data }, { on := 3, ground := Ground.data }, { on := 6, ground := Ground.chain }, { on := 0, ground := Ground.phase }, { on := 1, ground := Ground.phase }, { on := 2, ground := Ground.phase }, { on := 3, ground := Ground.phase }, { on := 4, ground := Ground.phase }, { on := 5, ground := Ground.phase }, { on := 6, ground := Ground.phase }], guard := none }) rfl (fun KK hK => ?cs60) ?ms60
                    case cs60 =>
                      go_simp
                      have hB2 := Lib.hid (hB.out.put2 (.slice xa2 LL.length xc2) (.slice ya2 RR.length yc2))
                      clear hB m0 m1 m2 m3 n0 n1 n2 n3
                      have hB := hB2
                      clear hB2
                      refine hK.out _ _ ?qs60 (fun hHeld2 => ?rs60)
                      case qs60 => ((try dsimp only); exact ⟨stepc hB.out.low hlt0 c0, stepc hB.out.low hlt0 c1⟩)
                      clear hK KK hHeld
                      have hHeld := hHeld2
                      clear hHeld2
                      try simp only [Act.put, List.setIfInBounds_toArray, List.set_cons_zero, List.set_cons_succ]
                      refine wpAnyH_done (by kernel_rfl) ?_ _
                      go_wp2_with fail
                      go_meet
                      exact ⟨_, _, _, _, _, _, rfl, rfl, hB⟩
                    case ms60 => exact AllReadyH.nil
                  case ms59 => exact AllReadyH.nil
                case ms58 =>
                  exact AllReadyH.nil
              case ms57 =>
                exact AllReadyH.nil
            case ms56 =>
              exact AllReadyH.nil
        case ms46 =>
          exact AllReadyH.nil
    -- @end
  case rest =>
    obtain ⟨ba, bb, va, v2, vb, v3, rfl, rfl, hB⟩ := hcut
    obtain ⟨x1, x2, x3, x4, y1, y2, y3, y4, rfl, rfl, hx, rfl, rfl, hy, hb1, hr1, hb2, hr2⟩ := hB.out.ins hL20 hR30 hR30 hR25.out hR25.out
    have hb1 := Lib.hid hb1
    have hr1 := Lib.hid hr1
    have hb2 := Lib.hid hb2
    have hr2 := Lib.hid hr2
    have hmay := Lib.hid (May_any hb1.out hr1.out x2 x4 hx)
    have hdif := Lib.hid (fun w3 (hb : Below wc.heap.size wc w3) => Differ_any (hb1.out.step hb) (hr1.out.step hb) (hb2.out.step hb) (hr2.out.step hb) x2 x4 y2 y4 hx hy)
    have hW := Lib.hid (nextw hb0.out hB.out.low)
    obtain ⟨m0, m1, -, -, m2, m3, -, -⟩ := hB.out.cells
    clear c0 c1
    have hwk := Lib.hid (fun w3 (hb : Below w.heap.size w w3) => wakes_any (hTZ w3 hb))
    clear hTZ
    rcases (show mayT LL RR = false ∨ mayT LL RR = true by cases mayT LL RR <;> simp) with hm | hm
    · rw [hm] at hmay
      have hno : Hid (okD LL LL RR RR = false) := Lib.hid (by unfold okD; rw [hm]; simp)
      go_wp2_with (first
        | (go_at_call 20; (with_reducible refine hmay.out.mono ?_); rintro e X2 ⟨rfl, hb3⟩; have hB2 := Lib.hid (hB.out.step hb3); have hd2 := Lib.hid (hdif.out _ hb3); have hW2 := Lib.hid (nextw hW.out hb3); obtain ⟨m0', m1', -, -, m2', m3', -, -⟩ := hB2.out.cells; clear hb3 m0 m1 m2 m3 hmay hdif hB hW)
        | (go_at_call 16; (with_reducible refine hd2.out.mono ?_); rintro e X3 ⟨⟨r, b, is, rfl, hD⟩, hb4⟩; obtain rfl := hD.bad hno.out; have hW3 := Lib.hid (nextw hW2.out hb4); have hwk3 := Lib.hid (hwk.out X3 hW3.out); clear hD hb4 hd2 m0' m1' m2' m3')
        | (go_at_call 24; (with_reducible refine hwk3.out.mono ?_); rintro e X4 ⟨rfl, hb5⟩; have hW4 := Lib.hid (nextw hW3.out hb5); clear hb5))
      go_ret
      exact ⟨rfl, hW4.out⟩
    · rw [hm] at hmay
      have hyes := Lib.hid (okD_of hm hm)
      have hm := Lib.hid hm
      go_upto_region 5 with (go_at_call 20; (with_reducible refine hmay.out.mono ?_); rintro e X2 ⟨rfl, hb3⟩; have hB2 := Lib.hid (hB.out.step hb3); have hd2 := Lib.hid (hdif.out _ hb3); have hX2 := Lib.hid hb3; have hW2 := Lib.hid (nextw hW.out hb3); obtain ⟨m0', m1', n0', n1', m2', m3', n2', n3'⟩ := hB2.out.cells; clear hb3 m0 m1 m2 m3 hmay hdif hB hW)
      by_cases h0 : 0 < RR.length
      · have h0i : (0 : Int) < RR.length := by omega
        have g0 := stepc hB2.out.low hz0 c2'
        have g1 := stepc hB2.out.low hz0 c3
        have hLp : 0 < LL.length := (busesT_of (mayT_of hm.out).1).1
        have hL0 : ¬ (LL.length : Int) = 0 := by omega
        have hR0 : ¬ (RR.length : Int) = 0 := by omega
        have hw0 : IntKind.i64.wrap (p0 : Int) = p0 := by unfold IntKind.wrap; simp [IntKind.signed, IntKind.bits]; omega
        have ht0 : ((p0 : Int)).tmod (RR.length : Int) = ((p0 % RR.length : Nat) : Int) := by rw [Int.tmod_eq_emod_of_nonneg (by omega)]; omega
        have ht1 : ((p1 : Int)).tmod (LL.length : Int) = ((p1 % LL.length : Nat) : Int) := by rw [Int.tmod_eq_emod_of_nonneg (by omega)]; omega
        have hi : p0 % RR.length < RR.length := Nat.mod_lt _ h0
        have hk : p1 % LL.length < LL.length := Nat.mod_lt _ hLp
        go_upto_region 6 with fail
        go_quiet (fail)
        have ei : (p0 : Int) % (RR.length : Int) = ((p0 % RR.length : Nat) : Int) := (Int.natCast_emod p0 RR.length).symm
        have ek : (p1 : Int) % (LL.length : Int) = ((p1 % LL.length : Nat) : Int) := (Int.natCast_emod p1 LL.length).symm
        rw [ei, ek]
        clear ei ek ht0 ht1 hw0 hL0 hR0 g0 g1 m0' m1' n0' n1' m2' m3' n2' n3'
        generalize p0 % RR.length = i at *
        generalize p1 % LL.length = k at *
        have hb3 : Below X2.heap.size X2 (X2.drewN nq) := below_draws _ _
        have hB3 := Lib.hid (hB2.out.step hb3)
        have hW3 := Lib.hid (nextw hW2.out hb3)
        have hb2x := Lib.hid (hb2.out.step (hX2.out.trans (hb3.mono hX2.out.size)))
        generalize X2.drewN nq = X3 at *
        clear hb3 hB2 hW2 hd2
        have hrl := Lib.hid (fun j (hj : j < RR.length) => (((mayT_of hm.out).2.2 j hj).1 : (RR.getD j []).length = LL.length))
        have hwd := (busesT_of (mayT_of hm.out).1).2.2 k hk
        obtain ⟨-, hw1, hw64, -⟩ := hwd
        obtain ⟨q, off, rfl, hq, hcell⟩ := hb2x.out.at (by omega)
        have wc1 := (hcell k hk).2
        clear hcell
        generalize hwdd : (LL.getD k tb0).width = wd at *
        obtain ⟨kk, rfl⟩ : ∃ kk : Nat, wd = kk := ⟨wd.toNat, by omega⟩
        have hrli := hrl.out i hi
        have hto := ((mayT_of hm.out).2.2 i hi).2 k hk
        rw [hwdd] at hto
        have hpos : 0 ≤ colF RR k i := hWd.out i _ (by
          unfold colF
          generalize RR.getD i [] = l at *
          rw [List.getD_eq_getElem?_getD, List.getElem?_eq_getElem (show k < l.length by omega)]
          exact List.getElem_mem _)
        obtain ⟨o, ho⟩ : ∃ o : Nat, colF RR k i = o := ⟨(colF RR k i).toNat, by omega⟩
        have hto2 : (o : Int) ≤ topT (kk : Int) := by rw [← ho]; exact hto
        have hob : (o : Int) < 18446744073709551616 := by have := (topT_bd (kk : Int)).2; omega
        obtain ⟨N, hN⟩ : ∃ N : Nat, N = (o ^^^ (y &&& (2 ^ kk - 1))) := ⟨_, rfl⟩
        have hNfit : (N : Int) ≤ topT (kk : Int) := by rw [hN]; exact mask_fits (by omega) (by omega) hto2
        have hM0 := (mask_nat kk (by omega)).2
        have hMlt : 2 ^ kk - 1 < 18446744073709551616 := by rw [← hM0]; exact Nat.lt_of_le_of_lt (Nat.div_le_self _ _) (by omega)
        have hX0 : bits .xor .u64 (o : Int) ((y &&& (2 ^ kk - 1) : Nat) : Int) = (N : Int) := by
          rw [Num.xor64 (by omega) hob (by omega) (by have := @Nat.and_le_left y (2 ^ kk - 1); omega), hN, Int.toNat_natCast, Int.toNat_natCast]
        have hA0 : bits .and .u64 (y : Int) ((2 ^ kk - 1 : Nat) : Int) = ((y &&& (2 ^ kk - 1) : Nat) : Int) := by
          rw [Num.and64 (by omega) (by omega) (by omega) (by omega), Int.toNat_natCast, Int.toNat_natCast]
        generalize y &&& (2 ^ kk - 1) = yM at *
        have hM1 : (18446744073709551615 : Int) / 2 ^ (64 - kk) = ((2 ^ kk - 1 : Nat) : Int) := by rw [← hM0]; simp
        clear hM0
        generalize 2 ^ kk - 1 = M at *
        have hsub : IntKind.i64.wrap (64 - (kk : Int)) = ((64 - kk : Nat) : Int) := by unfold IntKind.wrap; simp [IntKind.signed, IntKind.bits]; omega
        have hs64 : ((64 - kk : Nat) : Int) ≤ 64 := by omega
        have hs64n : 64 - kk ≤ 64 := by omega
        generalize 64 - kk = sN at *
        have hNfit := Lib.hid hNfit
        clear hto hto2 hpos hMlt
        have hB4 := hB3.out.step ((Below.refl _ _).drew)
        obtain ⟨b, cb, g, cg, hv3, k0, k1, k2, hge, hput⟩ := hB4.write (i := i) (k := k) (N : Int) hi (by rw [hrli]; exact hk)
        simp at hv3
        obtain ⟨rfl, rfl⟩ := hv3
        rw [hrli] at k0
        rw [ho] at k1
        have k0' : X3.cell? ⟨b, i, none⟩ = _ := k0
        have k1' : X3.cell? ⟨g, k, none⟩ = _ := k1
        have hii : (i : Int) < RR.length := by omega
        have hki : (k : Int) < LL.length := by omega
        have hput := Lib.hid hput
        obtain ⟨m0, m1, n0, n1, m2, m3, n2, n3⟩ := hB3.out.cells
        clear hN hB4 k0
        have hWg : Hid (Below w.heap.size w (X3.drew.setCell ⟨g, k, none⟩ (.int .u64 (N : Int)))) := Lib.hid (nextw hb0.out hput.out.low)
        go_upto_region 7 with fail
        go_still_tail 20, (by kernel_rfl)
        change wpList _ _ _ _ _ X3.drew
        generalize X3.drew = X4 at *
        clear k0' k1' m0 m1 n0 n1 m2 m3 n2 n3 hB3 hW3
        go_upto_region 8 with fail
        generalize X4.setCell ⟨g, k, none⟩ (.int .u64 (N : Int)) = X5 at *
        have hmS : Hid (mayT LL (setR RR i k (N : Int)) = true) := Lib.hid (mayT_set hm.out hi hk (by rw [hwdd]; exact hNfit.out))
        have hSl : (setR RR i k (N : Int)).length = RR.length := setR_len _ _ _ _
        have hS25 := Lib.hid (fun q => (by rw [setR_rowlen]; exact hR25.out q : ((setR RR i k (N : Int)).getD q []).length ≤ 25))
        have hcol := Lib.hid (setR_col RR i k (N : Int) hi (by rw [hrli]; exact hk))
        generalize setR RR i k (N : Int) = SS at *
        obtain ⟨u1, u2, u3, u4, v1, v2, v3, v4, hu1, hu2, -, hu3, hu4, -, hb5, hr5, hc5, hs5⟩ := hput.out.ins hL20 hR30 (by omega) hR25.out hS25.out
        cases hu1
        cases hu2
        cases hu3
        rw [hSl] at hu4
        cases hu4
        have hs5 : RRk .u64 X5 (some ⟨b, 0, none⟩) RR.length SS := by rw [← hSl]; exact hs5
        have hD1 := Lib.hid (Differ_any hb5 hr5 hc5 hs5 x2 x4 y2 y4 hx hy)
        have hD2 := Lib.hid (fun w3 (hb : Below X5.heap.size X5 w3) => Differ_any (hc5.step hb) (hs5.step hb) (hb5.step hb) (hr5.step hb) y2 y4 x2 x4 hy hx)
        have hSm := Lib.hid (fun w3 (hb : Below X5.heap.size X5 w3) => Same_any (hb5.step hb) (hr5.step hb) (hc5.step hb) (hs5.step hb) x2 x4 y2 y4)
        have hC1 := Lib.hid (fun w3 (hb : Below X5.heap.size X5 w3) => Column_any (hb5.step hb) (hr5.step hb) x2 x4 hx (LL.getD k tb0).name)
        have hC2 := Lib.hid (fun w3 (hb : Below X5.heap.size X5 w3) => Column_any (hc5.step hb) (hs5.step hb) y2 y4 hy (LL.getD k tb0).name)
        have hag : ∀ i' k', i' < RR.length → k' < LL.length → ¬ (i' = i ∧ k' = k) → AgR RR SS i' k' := fun i' k' _ _ hn => by
          show colF RR k' i' = colF SS k' i'
          rw [hcol.out, if_neg hn]
        have hAik : AgR RR SS i k ↔ o = N := by
          show colF RR k i = colF SS k i ↔ _
          rw [hcol.out, if_pos ⟨rfl, rfl⟩, ho]; omega
        have hf1 := Lib.hid (fun r b is (h : DifP LL RR LL SS r b is) => h.one (okD_of hm.out hmS.out) hSl.symm hi hk hag)
        have hf2 := Lib.hid (fun r b is (h : DifP LL SS LL RR r b is) => h.one (i := i) (k := k) (okD_of hmS.out hm.out) hSl (by omega) hk (fun i' k' h1 h2 h3 => (hag i' k' (by omega) h2 h3).symm))
        have hAik := Lib.hid hAik
        have hag := Lib.hid hag
        obtain ⟨m0, m1, -, -, m2, m3, -, -⟩ := hput.out.cells
        have hzb : ba < X5.heap.size := (Array.getElem?_eq_some_iff.1 hput.out.box1).1
        have hzc : bb < X5.heap.size := (Array.getElem?_eq_some_iff.1 hput.out.box2).1
        obtain ⟨qb, offb, hqe, hqb, hcelb⟩ := hc5.at (by omega)
        have wcb := (hcelb k hk).1
        clear hcelb
        cases hqe
        have hfa := Lib.hid (fun w3 (hb : Below X5.heap.size X5 w3) => few_any (hb5.step hb) (hr5.step hb) x2 x4)
        rw [hLL.out, hRR.out] at hfa
        have hd9 := Lib.hid (fun w3 (hb : Below X5.heap.size X5 w3) (d1 d2 : Option Addr) (kb : BsR w3 d1 LL.length LL) (kr : RRk .u64 w3 d2 (RR.length - 1) (RR.take (RR.length - 1))) (e1 e2 : Nat) (hd : LL.length ≤ e1) => Differ_any (hb5.step hb) (hr5.step hb) kb kr x2 x4 e1 e2 hx hd)
        clear hr5 hc5 hs5 hX0 hA0 hM1 hsub
        obtain ⟨qa, offa, rfl, hqa, hcela⟩ := hb5.at (by omega)
        have wca := (hcela k hk).1
        clear hcela hb5
        have hse := Lib.hid (sameR_ag hm.out hmS.out hSl.symm)
        have hsb := Lib.hid (sameB_self LL)
        have hnm := Lib.hid (⟨colT_self hm.out hk, colT_self hmS.out hk⟩ : colT LL RR (LL.getD k tb0).name = _ ∧ colT LL SS (LL.getD k tb0).name = _)
        rw [hnm.out.1] at hC1
        rw [hnm.out.2] at hC2
        rw [hSl] at hC2
        clear hnm
        generalize (LL.getD k tb0).name = nm at *
        rcases (show (o = N ∧ ((o : Int) != (N : Int)) = false ∧ Hid (∀ r b is, DifP LL RR LL SS r b is → r = 0 ∧ b = 0 ∧ is = false) ∧ Hid (∀ r b is, DifP LL SS LL RR r b is → r = 0 ∧ b = 0 ∧ is = false) ∧ Hid ((sameB LL LL && sameR RR SS) = true)) ∨ (o ≠ N ∧ ((o : Int) != (N : Int)) = true ∧ Hid (∀ r b is, DifP LL RR LL SS r b is → r = i ∧ b = k ∧ is = true) ∧ Hid (∀ r b is, DifP LL SS LL RR r b is → r = i ∧ b = k ∧ is = true) ∧ Hid ((sameB LL LL && sameR RR SS) = false)) by
          by_cases hON : o = N
          · refine .inl ⟨hON, bnef0 (by omega), Lib.hid (fun r b is h => (hf1.out r b is h).1 (hAik.out.2 hON)), Lib.hid (fun r b is h => (hf2.out r b is h).1 (hAik.out.2 hON).symm), Lib.hid ?_⟩
            rw [hsb.out, Bool.true_and, hse.out]
            intro i' k' h1 h2
            by_cases e : i' = i ∧ k' = k
            · rw [e.1, e.2]; exact hAik.out.2 hON
            · exact hag.out i' k' h1 h2 e
          · refine .inr ⟨hON, bnet (by omega), Lib.hid (fun r b is h => (hf1.out r b is h).2 (fun e => hON (hAik.out.1 e))), Lib.hid (fun r b is h => (hf2.out r b is h).2 (fun e => hON (hAik.out.1 e.symm))), Lib.hid ?_⟩
            rw [hsb.out, Bool.true_and, Bool.eq_false_iff]
            intro e
            exact hON (hAik.out.1 (hse.out.1 e i k hi hk))) with ⟨hON, hne, hgo1, hgo2, hsf⟩ | ⟨hON, hne, hgo1, hgo2, hsf⟩
        all_goals
          rw [hsf.out] at hSm
          have hON := Lib.hid hON
          go_upto_region 12 with (first
            | (go_at_call 16; (with_reducible refine hD1.out.mono ?_); rintro e X6 ⟨⟨r, b, is, rfl, hD⟩, hb6⟩; obtain ⟨rfl, rfl, rfl⟩ := hgo1.out _ _ _ hD; have hd6 := Lib.hid (hD2.out X6 hb6); have hB6 := Lib.hid hb6; have m0' := stepc hb6 hzb m0; have m1' := stepc hb6 hzb m1; have m2' := stepc hb6 hzc m2; have m3' := stepc hb6 hzc m3; clear hD hb6 m0 m1 m2 m3 hD1)
            | (go_at_call 16; (with_reducible refine hd6.out.mono ?_); rintro e X7 ⟨⟨r2, b2, is2, rfl, hD⟩, hb7⟩; obtain ⟨rfl, rfl, rfl⟩ := hgo2.out _ _ _ hD; have hB7 := Lib.hid (hB6.out.trans (hb7.mono hB6.out.size)); have hs7 := Lib.hid (hSm.out X7 hB7.out); have hzb6 := Nat.lt_of_lt_of_le hzb hB6.out.size; have hzc6 := Nat.lt_of_lt_of_le hzc hB6.out.size; have m0 := stepc hb7 hzb6 m0'; have m1 := stepc hb7 hzb6 m1'; have m2 := stepc hb7 hzc6 m2'; have m3 := stepc hb7 hzc6 m3'; clear hD hb7 m0' m1' m2' m3' hd6 hD2)
            | (go_at_call 22; (with_reducible refine hs7.out.mono ?_); rintro e X8 ⟨rfl, hb8⟩; have hB8 := Lib.hid (hB7.out.trans (hb8.mono hB7.out.size)); have hzb7 := Nat.lt_of_lt_of_le hzb hB7.out.size; have hzc7 := Nat.lt_of_lt_of_le hzc hB7.out.size; have m0' := stepc hb8 hzb7 m0; have m1' := stepc hb8 hzb7 m1; have m2' := stepc hb8 hzc7 m2; have m3' := stepc hb8 hzc7 m3; have hzb8 := Nat.lt_of_lt_of_le hzb hB8.out.size; have hzc8 := Nat.lt_of_lt_of_le hzc hB8.out.size; have hzq8 := Nat.lt_of_lt_of_le hqa hB8.out.size; clear hb8 m0 m1 m2 m3 hs7 hSm))
          have nmc := stepc hB8.out hqa wca
          go_region_held3 (fun w' => w'.cell? ⟨ba, 0, none⟩ = some (.slice (some ⟨qa, offa, none⟩) LL.length x2) ∧ w'.cell? ⟨ba, 1, none⟩ = some (.slice x3 RR.length x4) ∧ w'.cell? ⟨qa, offa + k * 2, none⟩ = some (.string nm)) (first | exact ⟨m0', m1', nmc⟩ | exact ⟨p0', p1', p2'⟩) (first | (go_at_call 14; (with_reducible refine (hC1.out X8.drew hB8.out.drew).mono ?_); rintro e X9 ⟨⟨xv, rfl, hxv⟩, hb9⟩; have p0' := stepc hb9 hzb8 m0'; have p1' := stepc hb9 hzb8 m1'; have p2' := stepc hb9 hzq8 nmc; have hB9 := Lib.hid (hB8.out.drew.trans (hb9.mono (show X5.heap.size ≤ X8.drew.heap.size from hB8.out.size))); have r2 := stepc hb9 hzc8 m2'; have r3 := stepc hb9 hzc8 m3'; obtain ⟨gx, cx, rfl, hgx, hxc⟩ := col_cell hxv hi; rw [ho] at hxc; clear hxv hb9))
          have nmb := stepc hB9.out hqb wcb
          have hzb9 := Nat.lt_of_lt_of_le hzb hB9.out.size
          have hzc9 := Nat.lt_of_lt_of_le hzc hB9.out.size
          have hzq9 := Nat.lt_of_lt_of_le hqb hB9.out.size
          have s0 := p0'
          have s1 := p1'
          clear m0' m1' m2' m3' nmc p0' p1' p2' hB8 hC1
          go_upto_region 13 with fail
          go_region_held3 (fun w' => w'.cell? ⟨bb, 0, none⟩ = some (.slice (some ⟨q, off, none⟩) LL.length y2) ∧ w'.cell? ⟨bb, 1, none⟩ = some (.slice (some ⟨b, 0, none⟩) RR.length y4) ∧ w'.cell? ⟨q, off + k * 2, none⟩ = some (.string nm)) (first | exact ⟨r2, r3, nmb⟩ | exact ⟨p0', p1', p2'⟩) (first | (go_at_call 14; (with_reducible refine (hC2.out X9.drew hB9.out.drew).mono ?_); rintro e X10 ⟨⟨yv, rfl, hyv⟩, hb10⟩; have p0' := stepc hb10 hzc9 r2; have p1' := stepc hb10 hzc9 r3; have p2' := stepc hb10 hzq9 nmb; have hB10 := Lib.hid (hB9.out.drew.trans (hb10.mono (show X5.heap.size ≤ X9.drew.heap.size from hB9.out.size))); have t0 := stepc hb10 hzb9 s0; have t1 := stepc hb10 hzb9 s1; have txc := stepc hb10 hgx hxc; obtain ⟨gy, cy, rfl, hgy, hyc⟩ := col_cell hyv hi; rw [hcol.out, if_pos ⟨rfl, rfl⟩] at hyc; clear hyv hb10))
          clear p0' p1' p2' r2 r3 nmb s0 s1 hxc hB9
          go_upto_region 14 with fail
          go_quiet (fail)
          have hb11 : Below X10.heap.size X10 (X10.drewN nq) := below_draws _ _
          have hB11 := Lib.hid (hB10.out.trans (hb11.mono hB10.out.size))
          have hzb10 := Nat.lt_of_lt_of_le hzb hB10.out.size
          have m0 := stepc hb11 hzb10 t0
          have m1 := stepc hb11 hzb10 t1
          clear t0 t1 txc hyc hB10
          generalize X10.drewN nq = X11 at *
          clear hb11
          have hf11 := Lib.hid (hfa.out X11 hB11.out)
          have hzb11 := Nat.lt_of_lt_of_le hzb hB11.out.size
          go_upto_region 17 with (go_at_call 10; (with_reducible refine hf11.out.mono ?_); rintro e X12 ⟨va, v2, rfl, hTa, hb12⟩; obtain ⟨z1, z2, z3, z4, rfl, rfl, hz, hbz, hrz⟩ := hTa.tab.ins (by omega) (by omega) (fun q _ => by have := hR25.out q; omega); have hB12 := Lib.hid (hB11.out.trans (hb12.mono hB11.out.size)); have m0' := stepc hb12 hzb11 m0; have m1' := stepc hb12 hzb11 m1; have hzb12 := Nat.lt_of_lt_of_le hzb hB12.out.size; have hbz := Lib.hid hbz; have hrz := Lib.hid hrz; obtain ⟨kv9, hkv9, -⟩ := hTa.rows; have hz4 := (own_cap hkv9).1; clear hkv9 kv9 hTa hb12 m0 m1)
          have hbm : ∀ x, x = X12.alloc (.cells #[.slice z1 LL.length z2, .slice z3 RR.length z4] 25) → Below X12.heap.size X12 x ∧ x.heap[X12.heap.size]? = some (.cells #[.slice z1 LL.length z2, .slice z3 RR.length z4] 25 (0, 0)) := by
            rintro x rfl; exact ⟨(Below.refl _ _).alloc (Nat.le_refl _) _, heap_alloc_new X12 _⟩
          obtain ⟨hb13, hh13⟩ := hbm _ rfl
          clear hbm
          generalize X12.alloc (.cells #[.slice z1 LL.length z2, .slice z3 RR.length z4] 25) = X13 at *
          have q0 := cell_of_heap hh13 0 (.slice z1 LL.length z2) rfl
          have q1 := cell_of_heap hh13 1 (.slice z3 RR.length z4) rfl
          have qf := frozen_of_row X13 X12.heap.size 1 _ _ hh13
          have h14 : ∀ x, x = X13.setCell ⟨X12.heap.size, 1, none⟩ (.slice z3 (RR.length - 1) z4) → Below X12.heap.size X12 x ∧ x.cell? ⟨X12.heap.size, 0, none⟩ = some (.slice z1 LL.length z2) ∧ x.cell? ⟨X12.heap.size, 1, none⟩ = some (.slice z3 (RR.length - 1) z4) := by
            rintro x rfl
            exact ⟨hb13.setCell (p := ⟨X12.heap.size, 1, none⟩) (Nat.le_refl _) _, (World.cell?_setCell_other _ _ _ _ (by simp)).trans q0, World.cell?_setCell_same _ _ _ q1⟩
          have h14 := Lib.hid h14
          have hl1 : IntKind.i64.wrap ((RR.length : Int) - 1) = ((RR.length - 1 : Nat) : Int) := by unfold IntKind.wrap; simp [IntKind.signed, IntKind.bits]; omega
          have hl2 : ((RR.length - 1 : Nat) : Int) ≤ z4 := by omega
          have hl3 : (0 : Int) ≤ ((RR.length - 1 : Nat) : Int) := by omega
          have hl4 : RR.length - 1 ≤ z4 := by omega
          have hlm := Lib.hid (fun r b is (h : DifP LL RR LL (RR.take (RR.length - 1)) r b is) => h.less (okD_of hm.out (mayT_take hm.out _)) h0)
          have hrz2 := Lib.hid (hrz.out.take (RR.length - 1) (by omega))
          clear hrz hh13
          generalize RR.length - 1 = NN at *
          go_upto_region 18 with fail
          obtain ⟨hb14, w0, w1⟩ := h14.out _ rfl
          generalize X13.setCell ⟨X12.heap.size, 1, none⟩ (.slice z3 NN z4) = X14 at *
          clear q0 q1 qf h14 hb13 hl1 hl2
          have m0 := stepc hb14 hzb12 m0'
          have m1 := stepc hb14 hzb12 m1'
          have hB14 := Lib.hid (hB12.out.trans (hb14.mono hB12.out.size))
          have hd14 := Lib.hid (hd9.out X14 hB14.out z1 z3 (hbz.out.step hb14) (hrz2.out.step hb14) z2 z4 hz)
          have hlt14 : Hid (∀ x, Below X14.heap.size X14 x → x.cell? ⟨X12.heap.size, 1, none⟩ = some (.slice z3 NN z4)) := Lib.hid (fun x hb => stepc hb (World.block_lt_of_cell? X14 _ w1) w1)
          clear m0' m1'
          go_wp2_with (first
            | (go_at_call 16; (with_reducible refine hd14.out.mono ?_); rintro e X15 ⟨⟨r9, b9, is9, rfl, hD⟩, hb15⟩; obtain ⟨rfl, rfl, rfl⟩ := hlm.out _ _ _ hD; have w1' := hlt14.out _ hb15; have hB15 := Lib.hid (hB14.out.trans (hb15.mono hB14.out.size)); have hW15 := Lib.hid (nextw hWg.out hB15.out); have hwk15 := Lib.hid (hwk.out X15 hW15.out); clear hD hb15 w0 w1 m0 m1 hd14)
            | (go_at_call 24; (with_reducible refine hwk15.out.mono ?_); rintro e X16 ⟨rfl, hb16⟩; have hW16 := Lib.hid (nextw hW15.out hb16); clear hb16))
          go_ret
          exact ⟨rfl, hW16.out⟩
      · have h0i : ¬ (0 : Int) < RR.length := by omega
        go_wp2_with (first
          | (go_at_call 16; (with_reducible refine hd2.out.mono ?_); rintro e X3 ⟨⟨r, b, is, rfl, hD⟩, hb4⟩; obtain ⟨rfl, rfl, rfl⟩ := hD.same hyes.out; have hW3 := Lib.hid (nextw hW2.out hb4); have hwk3 := Lib.hid (hwk.out X3 hW3.out); clear hD hb4 hd2 m0' m1' m2' m3')
          | (go_at_call 24; (with_reducible refine hwk3.out.mono ?_); rintro e X4 ⟨rfl, hb5⟩; have hW4 := Lib.hid (nextw hW3.out hb5); clear hb5))
        go_ret
        exact ⟨rfl, hW4.out⟩
end Go.Proofs.YtnhpjacodhdpeaaDoor
