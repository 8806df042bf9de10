/-
  Package trace: Get.
-/
import Derived.Test.YtnhpjacodhdpeaaDoorTrN
import Derived.Recover
namespace Go.Proofs.YtnhpjacodhdpeaaDoor
open Go.RowKit Go.Maps Bits
set_option maxRecDepth 100000

theorem catch_no (p : Addr) (w : World) : CallsD Tryd.prog 94 #[.pointer (some p)] .returning w fun e u' w' => e = .returned (.tuple #[]) ∧ u' = .returning ∧ w' = w := by
  refine callsD_of_wpS Tryd.func94 rfl fun c₀ cs hu => ?_
  apply wpS_seq
  apply wpS_region
  simp [wpOpsS, go_sem, recoverD, hu, Tryd.ntmps94, Exit.thenS]
  refine wpS_of_wp ?_
  go_wp2
  cases c₀
  simp_all [bodyPostS, results, Tryd.results94]
theorem wrong_is (n : Int) (w : World) : (Instr.typeAssert (.iface 166 (.int .i64 n)) 20 166 true).run Tryd.prog w = .ok (.tuple #[.int .i64 n, .bool true]) w := by kernel_rfl
theorem catch_yes (p : Addr) (x n : Int) (w : World) (hc : w.cell? p = some (.int .i64 x)) (hz : w.frozen? p = false) :
    CallsD Tryd.prog 94 #[.pointer (some p)] (.panicking [{ v := .iface 166 (.int .i64 n), recovered := false }]) w fun e u' w' =>
      e = .returned (.tuple #[]) ∧ u' = .panicking [{ v := .iface 166 (.int .i64 n), recovered := true }] ∧ w' = w.setCell p (.int .i64 n) := by
  refine callsD_of_wpS Tryd.func94 rfl fun c₀ cs hu => ?_
  apply wpS_seq
  apply wpS_region
  simp [wpOpsS, go_sem, recoverD, hu, Tryd.ntmps94, Exit.thenS]
  have hta := fun w => wrong_is n w
  refine wpS_of_wp ?_
  change Code.wp _ _ _ ⟨#[.pointer (some p), undef, undef, undef, .iface 166 (.int .i64 n), undef, undef, undef, undef, undef, undef], []⟩ _
  go_wp2
  simp [bodyPostS, results, Tryd.results94]
theorem KR.below' {r N : Nat} {w w' : World} (h : KR r w w') (hr : N ≤ r) (hN : N ≤ w.heap.size) : Below N w w' := Kept.below h (fun k hk => by omega) hN
def GetOk (w w' : World) (e : Ending) : Except Nat (List TB × List (List Int)) → Prop
  | .ok (L, R) => ∃ va v2, e = .returned (.tuple #[.agg #[va, v2], .int .i64 0]) ∧ TabV w' w.heap.size va v2 L R
  | .error n => e = .returned (.tuple #[.agg #[.slice none 0 0, .slice none 0 0], .int .i64 (n : Int)])
theorem read_any {w : World} {a : Option Addr} {n : Nat} {l : List UInt8} (h : BR w a n l) (c : Nat) (hc : n ≤ c) (hcm : c ≤ 9223372036854775807) (hll : n ≤ 16777216) :
    Calls Tryd.prog 59 #[.slice a n c] w fun e w' => GetOk w w' e (tableP l) ∧ Below w.heap.size w w' := by
  have hmf : ∀ (fn : Fn) (first cap : Array Value) (w : World), (Instr.makeFunc fn first cap).run Tryd.prog w = .ok (.func fn first cap) w := fun _ _ _ _ => rfl
  have hbx : Hid (∀ w4, w4 = ((w.alloc (.cells #[.slice none 0 0, .slice none 0 0] 25)).alloc (.cells #[.int .i64 0] 32)).alloc (.cells #[.slice a n c] 168) → Below w.heap.size w w4 ∧ Rd w4 (w.heap.size + 2) l ∧ w4.heap.size = w.heap.size + 3 ∧ ∀ w7, KR (w.heap.size + 2) w4 w7 → w7.heap[w.heap.size]? = some (.cells #[.slice none 0 0, .slice none 0 0] 25 (0, 0)) ∧ w7.heap[w.heap.size + 1]? = some (.cells #[.int .i64 0] 32 (0, 0)) ∧ Below w.heap.size w w7) := Lib.hid (by
    rintro w4 rfl
    have hb : Below w.heap.size w (((w.alloc (.cells #[.slice none 0 0, .slice none 0 0] 25)).alloc (.cells #[.int .i64 0] 32)).alloc (.cells #[.slice a n c] 168)) := (((Below.refl _ _).alloc (Nat.le_refl _) _).alloc (by simp) _).alloc (by simp; omega) _
    have hz : (((w.alloc (.cells #[.slice none 0 0, .slice none 0 0] 25)).alloc (.cells #[.int .i64 0] 32)).alloc (.cells #[.slice a n c] 168)).heap.size = w.heap.size + 3 := by simp
    have b2 : (((w.alloc (.cells #[.slice none 0 0, .slice none 0 0] 25)).alloc (.cells #[.int .i64 0] 32)).alloc (.cells #[.slice a n c] 168)).heap[w.heap.size + 2]? = some (.cells #[.slice a n c] 168 (0, 0)) := by
      have := heap_alloc_new ((w.alloc (.cells #[.slice none 0 0, .slice none 0 0] 25)).alloc (.cells #[.int .i64 0] 32)) (.cells #[.slice a n c] 168)
      simpa using this
    have b1 : (((w.alloc (.cells #[.slice none 0 0, .slice none 0 0] 25)).alloc (.cells #[.int .i64 0] 32)).alloc (.cells #[.slice a n c] 168)).heap[w.heap.size + 1]? = some (.cells #[.int .i64 0] 32 (0, 0)) := by
      have := heap_alloc_new (w.alloc (.cells #[.slice none 0 0, .slice none 0 0] 25)) (.cells #[.int .i64 0] 32)
      exact heap_old (by simpa using this) _
    have b0 : (((w.alloc (.cells #[.slice none 0 0, .slice none 0 0] 25)).alloc (.cells #[.int .i64 0] 32)).alloc (.cells #[.slice a n c] 168)).heap[w.heap.size]? = some (.cells #[.slice none 0 0, .slice none 0 0] 25 (0, 0)) := heap_old (heap_old (heap_alloc_new w _) _) _
    have hbr := h.step hb
    obtain ⟨e1, e2, e3⟩ := hbr
    refine ⟨hb, ⟨a, c, by rw [e1]; exact b2, by omega, hcm, ?_⟩, hz, fun w7 hk => ⟨(hk.block _ (by omega) (by omega)).trans b0, (hk.block _ (by omega) (by omega)).trans b1, hb.trans (hk.below' (by omega) (by omega))⟩⟩
    rcases h.2.2 with h0 | ⟨b, off, rfl, hlt, hcell⟩
    · left; exact List.eq_nil_of_length_eq_zero (by omega)
    · right
      exact ⟨b, off, rfl, by omega, fun i hi => stepc hb hlt (hcell i (by omega))⟩)
  have hll' : l.length ≤ 16777216 := by rw [h.1]; exact hll
  have htab := Lib.hid (fun w4 h4 => rtable_any (hbx.out w4 h4).2.1 hll')
  have hbx2 := Lib.hid (fun w4 h4 => (hbx.out w4 h4).2.2.2)
  have hbz2 := Lib.hid (fun w4 h4 => (hbx.out w4 h4).2.2.1)
  clear hbx h
  go_enter_defers Tryd.func59, Tryd.ntmps59
  cases hT : tableQ l with
  | error e =>
    have hTT : Hid (tableP l = .error e) := Lib.hid (by
      unfold tableQ at hT
      cases hP : tableP l with
      | error e2 => rw [hP] at hT; cases hT; rfl
      | ok p => rw [hP] at hT; cases hT)
    rw [hT] at htab
    clear hT
    go_wp2_with (go_at_call 95; (with_reducible refine (htab.out _ rfl).mono ?_); rintro e2 w7 ⟨hk7, he⟩; obtain rfl : e2 = .panicked (WP e) := he; obtain ⟨q0, q1, q2⟩ := hbx2.out _ rfl w7 hk7; have q0 := Lib.hid q0; have q1 := Lib.hid q1; have q2 := Lib.hid q2; clear hk7 hbx2 htab)
    refine leaves_cons (f := 94) (args := #[.pointer (some ⟨w.heap.size + 1, 0, none⟩)]) (by simp) (by simp [go_sem]) ?_
    refine (catch_yes ⟨w.heap.size + 1, 0, none⟩ 0 e _ (cell_of_heap q1.out 0 _ rfl) (frozen_of_row w7 _ 0 _ _ q1.out)).mono ?_
    rintro e2 u' w'' ⟨rfl, rfl, rfl⟩
    have m0 := cell_of_heap q0.out 0 (.slice none 0 0) rfl
    have m1 := cell_of_heap q0.out 1 (.slice none 0 0) rfl
    have m2 := cell_of_heap q1.out 0 (.int .i64 0) rfl
    have hfin : GetOk w (w7.setCell ⟨w.heap.size + 1, 0, none⟩ (.int .i64 (e : Int))) (.returned (.tuple #[.agg #[.slice none 0 0, .slice none 0 0], .int .i64 (e : Int)])) (tableP l) ∧ Below w.heap.size w (w7.setCell ⟨w.heap.size + 1, 0, none⟩ (.int .i64 (e : Int))) := by
      refine ⟨by rw [hTT.out]; rfl, q2.out.setCell (p := ⟨w.heap.size + 1, 0, none⟩) (by show w.heap.size ≤ w.heap.size + 1; omega) _⟩
    simp [Leaves, settle, results, Tryd.results59, go_sem, m0, m1, m2]
    exact hfin
  | ok p =>
    obtain ⟨⟨L, R⟩, l9⟩ := p
    have hTT : Hid (tableP l = .ok (L, R)) := Lib.hid (by
      unfold tableQ at hT
      cases hP : tableP l with
      | error e2 => rw [hP] at hT; cases hT
      | ok p => rw [hP] at hT; cases hT; rfl)
    rw [hT] at htab
    clear hT
    go_wp2_with (go_at_call 95; (with_reducible refine (htab.out _ rfl).mono ?_); rintro e2 w7 ⟨hk7, hr7, he⟩; obtain ⟨va, v2, rfl, hV7⟩ := he; obtain ⟨ba, bc, rfl⟩ := own_slice hV7.bus; obtain ⟨kv, hkv, -⟩ := hV7.rows; obtain ⟨ra, rc, rfl⟩ := own_slice hkv; obtain ⟨q0, q1, q2⟩ := hbx2.out _ rfl w7 hk7; have m0 := cell_of_heap q0 0 (.slice none 0 0) rfl; have m1 := cell_of_heap q0 1 (.slice none 0 0) rfl; have m2 := cell_of_heap q1 0 (.int .i64 0) rfl; have n0 := frozen_of_row w7 _ 0 _ _ q0; have n1 := frozen_of_row w7 _ 1 _ _ q0; have n2 := frozen_of_row w7 _ 0 _ _ q1; have q0 := Lib.hid q0; have q1 := Lib.hid q1; have q2 := Lib.hid q2; have hV7 := Lib.hid hV7; have hz4 := Lib.hid (hbz2.out _ rfl); clear hk7 hbx2 htab hkv hr7)
    have hfin : ∀ w8, w8 = ((w7.setCell ⟨w.heap.size, 0, none⟩ (.slice ba L.length bc)).setCell ⟨w.heap.size, 1, none⟩ (.slice ra R.length rc)).setCell ⟨w.heap.size + 1, 0, none⟩ (.int .i64 0) → w8.cell? ⟨w.heap.size, 0, none⟩ = some (.slice ba L.length bc) ∧ w8.cell? ⟨w.heap.size, 1, none⟩ = some (.slice ra R.length rc) ∧ w8.cell? ⟨w.heap.size + 1, 0, none⟩ = some (.int .i64 0) ∧ GetOk w w8 (.returned (.tuple #[.agg #[.slice ba L.length bc, .slice ra R.length rc], .int .i64 0])) (tableP l) ∧ Below w.heap.size w w8 := by
      rintro w8 rfl
      have r0 := set2_heap q0.out (.slice ba L.length bc) (.slice ra R.length rc)
      have r1 : (((w7.setCell ⟨w.heap.size, 0, none⟩ (.slice ba L.length bc)).setCell ⟨w.heap.size, 1, none⟩ (.slice ra R.length rc)).setCell ⟨w.heap.size + 1, 0, none⟩ (.int .i64 0)).heap[w.heap.size]? = some (.cells #[.slice ba L.length bc, .slice ra R.length rc] 25 (0, 0)) := by
        rw [Below.heap_setCell _ _ _ _ (by show w.heap.size ≠ w.heap.size + 1; omega)]; exact r0
      have r2 : ((w7.setCell ⟨w.heap.size, 0, none⟩ (.slice ba L.length bc)).setCell ⟨w.heap.size, 1, none⟩ (.slice ra R.length rc)).heap[w.heap.size + 1]? = some (.cells #[.int .i64 0] 32 (0, 0)) := by
        rw [Below.heap_setCell _ _ _ _ (by show w.heap.size + 1 ≠ w.heap.size; omega), Below.heap_setCell _ _ _ _ (by show w.heap.size + 1 ≠ w.heap.size; omega)]; exact q1.out
      have r3 : (((w7.setCell ⟨w.heap.size, 0, none⟩ (.slice ba L.length bc)).setCell ⟨w.heap.size, 1, none⟩ (.slice ra R.length rc)).setCell ⟨w.heap.size + 1, 0, none⟩ (.int .i64 0)).heap[w.heap.size + 1]? = some (.cells #[.int .i64 0] 32 (0, 0)) := by
        rw [setCell_eq_setRow _ _ 0 _ _ _ _ r2, setRow_heap _ _ _ _ _ _ r2]; rfl
      have hk1 : Kept (fun k => k = w.heap.size ∨ k = w.heap.size + 1) w7 (((w7.setCell ⟨w.heap.size, 0, none⟩ (.slice ba L.length bc)).setCell ⟨w.heap.size, 1, none⟩ (.slice ra R.length rc)).setCell ⟨w.heap.size + 1, 0, none⟩ (.int .i64 0)) := ⟨rfl, rfl, rfl, by simp, fun k _ hn => by
        rw [Below.heap_setCell _ _ _ _ (fun e => hn (.inr e)), Below.heap_setCell _ _ _ _ (fun e => hn (.inl e)), Below.heap_setCell _ _ _ _ (fun e => hn (.inl e))]⟩
      have hzz := hz4.out
      have row : ∀ {B T size n : Nat} {v : Value} {xs : List Value}, w.heap.size + 3 = B → w7.ownsRow B T size v n xs → (((w7.setCell ⟨w.heap.size, 0, none⟩ (.slice ba L.length bc)).setCell ⟨w.heap.size, 1, none⟩ (.slice ra R.length rc)).setCell ⟨w.heap.size + 1, 0, none⟩ (.int .i64 0)).ownsRow w.heap.size T size v n xs := fun hB hr =>
        own_base (own_keptF hr hk1 (fun k e hf => by have := (hr.lt k e).1; omega)) (by omega)
      refine ⟨cell_of_heap r1 0 _ rfl, cell_of_heap r1 1 _ rfl, cell_of_heap r3 0 _ rfl, ?_, q2.out.trans (hk1.below (fun k hk => by omega) q2.out.size)⟩
      rw [hTT.out]
      refine ⟨_, _, rfl, row hzz.symm hV7.out.bus, ?_⟩
      obtain ⟨kv, h1, h2⟩ := hV7.out.rows
      exact ⟨kv, row hzz.symm h1, fun i hi => by obtain ⟨x, e1, e2⟩ := h2 i hi; exact ⟨x, e1, row hzz.symm e2⟩⟩
    obtain ⟨c0, c1, c2, hG, hB⟩ := hfin _ rfl
    refine leaves_cons (f := 94) (args := #[.pointer (some ⟨w.heap.size + 1, 0, none⟩)]) (by simp) (by simp [go_sem]) ?_
    refine (catch_no ⟨w.heap.size + 1, 0, none⟩ _).mono ?_
    rintro e2 u' w'' ⟨rfl, rfl, rfl⟩
    generalize ((w7.setCell ⟨w.heap.size, 0, none⟩ (.slice ba L.length bc)).setCell ⟨w.heap.size, 1, none⟩ (.slice ra R.length rc)).setCell ⟨w.heap.size + 1, 0, none⟩ (.int .i64 0) = w8 at *
    simp [Leaves, settle, results, Tryd.results59, go_sem, c0, c1, c2]
    exact ⟨hG, hB⟩

set_option maxHeartbeats 2000000 in
theorem Get_any {w : World} {a : Option Addr} {n : Nat} {l : List UInt8} (h : BR w a n l) (c : Nat) (hc : n ≤ c) (hcm : c ≤ 9223372036854775807) (hll : n ≤ 16777216) :
    Calls Tryd.prog 29 #[.slice a n c] w fun e w' => GetOk w w' e (getP l) ∧ Below w.heap.size w w' := by
  have e1 := h.1
  have hp : Hid (getP l = tableP l) := Lib.hid (by show _ = _; unfold getP; rw [if_neg (by omega)])
  rw [hp.out]
  have hb : ∀ x, x = w.alloc (.cells #[.slice none 0 0, .slice none 0 0] 25) → Below w.heap.size w x ∧ x.heap.size = w.heap.size + 1 ∧ x.heap[w.heap.size]? = some (.cells #[.slice none 0 0, .slice none 0 0] 25 (0, 0)) := by
    rintro x rfl; exact ⟨(Below.refl _ _).alloc (Nat.le_refl _) _, by simp, heap_alloc_new w _⟩
  have hr := Lib.hid (fun x hx => read_any (h.step (hb x hx).1) c hc hcm hll)
  have hb := Lib.hid hb
  have g1 : ¬ (16777216 : Int) < n := by omega
  clear h hp e1
  go_enter Tryd.func29, Tryd.ntmps29
  have hfin : Hid (∀ w7 (ba ra : Option Addr) (bn bc rn rc : Nat), Below (w.heap.size + 1) (w.alloc (.cells #[.slice none 0 0, .slice none 0 0] 25)) w7 → (w7.cell? ⟨w.heap.size, 0, none⟩ = some (.slice none 0 0) ∧ w7.cell? ⟨w.heap.size, 1, none⟩ = some (.slice none 0 0) ∧ w7.frozen? ⟨w.heap.size, 0, none⟩ = false ∧ w7.frozen? ⟨w.heap.size, 1, none⟩ = false) ∧
      ∀ w8, w8 = (w7.setCell ⟨w.heap.size, 0, none⟩ (.slice ba bn bc)).setCell ⟨w.heap.size, 1, none⟩ (.slice ra rn rc) → w8.cell? ⟨w.heap.size, 0, none⟩ = some (.slice ba bn bc) ∧ w8.cell? ⟨w.heap.size, 1, none⟩ = some (.slice ra rn rc) ∧ Below w.heap.size w w8 ∧ ∀ {T size n : Nat} {v : Value} {xs : List Value}, w7.ownsRow (w.heap.size + 1) T size v n xs → w8.ownsRow w.heap.size T size v n xs) := Lib.hid (by
    intro w7 ba ra bn bc rn rc hb7
    obtain ⟨h1, h2, h3⟩ := hb.out _ rfl
    have q0 := (hb7.block w.heap.size (by omega)).trans h3
    refine ⟨⟨cell_of_heap q0 0 _ rfl, cell_of_heap q0 1 _ rfl, frozen_of_row w7 _ 0 _ _ q0, frozen_of_row w7 _ 1 _ _ q0⟩, ?_⟩
    rintro w8 rfl
    have r0 := set2_heap q0 (.slice ba bn bc) (.slice ra rn rc)
    have hk1 : Kept (fun k => k = w.heap.size) w7 ((w7.setCell ⟨w.heap.size, 0, none⟩ (.slice ba bn bc)).setCell ⟨w.heap.size, 1, none⟩ (.slice ra rn rc)) := ⟨rfl, rfl, rfl, by simp, fun k _ hn => by rw [Below.heap_setCell _ _ _ _ hn, Below.heap_setCell _ _ _ _ hn]⟩
    have hlo : Below w.heap.size w w7 := h1.trans (hb7.mono (by omega))
    exact ⟨cell_of_heap r0 0 _ rfl, cell_of_heap r0 1 _ rfl, hlo.trans (hk1.below (fun k hk => by omega) hlo.size), fun hr => own_base (own_keptF hr hk1 (fun k e hf => by have := (hr.lt k e).1; omega)) (by omega)⟩)
  have hsz := (hb.out _ rfl).2.1
  cases hT : tableP l with
  | error e =>
    rw [hT] at hr
    go_wp2_with (go_at_call 59; (with_reducible refine (hr.out _ rfl).mono ?_); rintro e2 w7 ⟨he, hb7⟩; obtain rfl : e2 = .returned (.tuple #[.agg #[.slice none 0 0, .slice none 0 0], .int .i64 (e : Int)]) := he; rw [hsz] at hb7; obtain ⟨⟨m0, m1, m2, m3⟩, hf8⟩ := hfin.out w7 none none 0 0 0 0 hb7; have hf8 := Lib.hid hf8; clear hb7)
    obtain ⟨c0, c1, hB, -⟩ := hf8.out _ rfl
    generalize (w7.setCell ⟨w.heap.size, 0, none⟩ (.slice none 0 0)).setCell ⟨w.heap.size, 1, none⟩ (.slice none 0 0) = w8 at *
    exact bodyPost_ret (v := .tuple #[.agg #[.slice none 0 0, .slice none 0 0], .int .i64 (e : Int)]) (by simp [results, Tryd.results29, asAddr, go_sem, c0, c1]) rfl ⟨rfl, hB⟩
  | ok p =>
    obtain ⟨L, R⟩ := p
    rw [hT] at hr
    go_wp2_with (go_at_call 59; (with_reducible refine (hr.out _ rfl).mono ?_); rintro e2 w7 ⟨he, hb7⟩; obtain ⟨va, v2, rfl, hV7⟩ := he; rw [hsz] at hb7 hV7; obtain ⟨ba, bc, rfl⟩ := own_slice hV7.bus; obtain ⟨kv, hkv, -⟩ := hV7.rows; obtain ⟨ra, rc, rfl⟩ := own_slice hkv; obtain ⟨⟨m0, m1, m2, m3⟩, hf8⟩ := hfin.out w7 ba ra L.length bc R.length rc hb7; have hf8 := Lib.hid hf8; have hV7 := Lib.hid hV7; clear hb7 hkv)
    obtain ⟨c0, c1, hB, row⟩ := hf8.out _ rfl
    have hV8 : TabV ((w7.setCell ⟨w.heap.size, 0, none⟩ (.slice ba L.length bc)).setCell ⟨w.heap.size, 1, none⟩ (.slice ra R.length rc)) w.heap.size (.slice ba L.length bc) (.slice ra R.length rc) L R := by
      refine ⟨row hV7.out.bus, ?_⟩
      obtain ⟨kv, h1, h2⟩ := hV7.out.rows
      exact ⟨kv, row h1, fun i hi => by obtain ⟨x, e1, e2⟩ := h2 i hi; exact ⟨x, e1, row e2⟩⟩
    clear row
    generalize (w7.setCell ⟨w.heap.size, 0, none⟩ (.slice ba L.length bc)).setCell ⟨w.heap.size, 1, none⟩ (.slice ra R.length rc) = w8 at *
    exact bodyPost_ret (v := .tuple #[.agg #[.slice ba L.length bc, .slice ra R.length rc], .int .i64 0]) (by simp [results, Tryd.results29, asAddr, go_sem, c0, c1]) rfl ⟨⟨_, _, rfl, hV8⟩, hB⟩
end Go.Proofs.YtnhpjacodhdpeaaDoor
