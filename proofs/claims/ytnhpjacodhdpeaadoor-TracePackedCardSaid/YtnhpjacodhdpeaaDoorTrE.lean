/-
  Numbers as text: two digits of base 10; base 16.
-/
import Derived.Test.YtnhpjacodhdpeaaDoorTrD
import Derived.Lib.AppendStr
import Derived.Deep.AppendLies
namespace Go.Proofs.YtnhpjacodhdpeaaDoor
open Go.RowKit Go.Maps Bits
set_option maxRecDepth 100000

/-- Bytes as cells. -/
def bys (t : List UInt8) : List Value := t.map fun b => Value.int .u8 (b.toNat : Int)
theorem bys_len (t : List UInt8) : (bys t).length = t.length := by simp [bys]
theorem bys_app (s t : List UInt8) : bys (s ++ t) = bys s ++ bys t := by simp [bys]
theorem bys_one (t : List UInt8) : ∀ u ∈ bys t, u.oneCell' = true := by
  intro u hu; simp [bys] at hu; obtain ⟨b, -, rfl⟩ := hu; rfl
theorem strCells_bys (s : ByteArray) : Lib.strCells s = bys s.data.toList := rfl
/-- A text that a call has made. -/
def TX (w : World) (base : Nat) (v : Value) (t : List UInt8) : Prop := w.ownsRow base 5 1 v t.length (bys t)
theorem TX.step {w w' : World} {base : Nat} {v : Value} {t : List UInt8} (h : TX w base v t) (hb : Below w.heap.size w w') : TX w' base v t := own_below h hb

def hx (d : Nat) : UInt8 := UInt8.ofNat (if d < 10 then 48 + d else 87 + d)
def hexA : Nat → Nat → List UInt8
  | 0, _ => []
  | k + 1, u => hexA k (u / 16) ++ [hx (u % 16)]
def nHex (u : Nat) : Nat := if u < 16 then 1 else nHex (u / 16) + 1
def hexD (u : Nat) : List UInt8 := hexA (nHex u) u
theorem hexA_len (k u : Nat) : (hexA k u).length = k := by
  induction k generalizing u with
  | zero => rfl
  | succ k ih => simp [hexA, ih]
theorem hexA_front (k u : Nat) : hexA (k + 1) u = hx (u / 16 ^ k % 16) :: hexA k u := by
  induction k generalizing u with
  | zero => simp [hexA]
  | succ k ih =>
    rw [show hexA (k + 1 + 1) u = hexA (k + 1) (u / 16) ++ [hx (u % 16)] from rfl, ih, Nat.div_div_eq_div_mul, ← Nat.pow_succ']
    rfl
theorem nHex_small {u : Nat} (h : u < 16) : nHex u = 1 := by rw [nHex, if_pos h]
theorem nHex_big {u : Nat} (h : ¬ u < 16) : nHex u = nHex (u / 16) + 1 := by rw [nHex, if_neg h]

def decT (i : Nat) : List UInt8 := if i < 10 then [UInt8.ofNat (48 + i)] else [UInt8.ofNat (48 + i / 10), UInt8.ofNat (48 + i % 10)]

def digsB : ByteArray := ⟨((List.range 36).map hx).toArray⟩
def smallsB : ByteArray := ⟨((List.range 100).flatMap (fun i => [UInt8.ofNat (48 + i / 10), UInt8.ofNat (48 + i % 10)])).toArray⟩
theorem small_key1 : ∀ i, i < 10 → digsB.extract i (i + 1) = ⟨(decT i).toArray⟩ := by decide +kernel
theorem small_key2 : ∀ i, i < 100 → ¬ i < 10 → smallsB.extract (i * 2) (i * 2 + 2) = ⟨(decT i).toArray⟩ := by decide +kernel
theorem small_any (i : Nat) (hi : i < 100) (w : World) :
    Calls Tryd.prog 131 #[.int .i64 i] w fun e w' => e = .returned (.string ⟨(decT i).toArray⟩) ∧ w = w' := by
  by_cases h : i < 10
  · have h1 : decide ((i : Int) < 10) = true := by simp; omega
    go_enter Tryd.func131, Tryd.ntmps131
    go_wp2
    go_ret
    refine ⟨?_, rfl⟩
    rw [← small_key1 i h]
    exact congrArg (fun C => Ending.returned (.string (ByteArray.extract C i (i + 1)))) (by kernel_rfl)
  · have h1 : decide ((i : Int) < 10) = false := by simp; omega
    go_enter Tryd.func131, Tryd.ntmps131
    go_wp2
    go_ret
    refine ⟨?_, rfl⟩
    rw [← small_key2 i hi h]
    exact congrArg (fun C => Ending.returned (.string (ByteArray.extract C (i * 2) (i * 2 + 2)))) (by kernel_rfl)

theorem info_u8t : (Tryd.prog.info? 5).map (fun i => (i.zero, i.size, i.bytes)) = some (some (.int .u8 0), 1, 1) := by kernel_rfl
theorem decT_len (i : Nat) : (decT i).length ≤ 2 := by unfold decT; split <;> simp
set_option maxHeartbeats 2000000 in
theorem append10_any {w : World} {base : Nat} {v : Value} {t : List UInt8} (h : TX w base v t) (hb : base ≤ w.heap.size) (ht : t.length ≤ 100000000) (i : Nat) (hi : i < 100) :
    Calls Tryd.prog 42 #[v, .int .i64 i, .int .i64 10] w fun e w' => ∃ v', e = .returned v' ∧ TX w' base v' (t ++ decT i) ∧ Below base w w' := by
  obtain ⟨i0, hin, hz0, hz1, hz2⟩ := info_parts info_u8t
  have H := Lib.hid h
  have hs := Lib.hid (fun w => small_any i hi w)
  have hsz : (⟨(decT i).toArray⟩ : ByteArray).size = (decT i).length := rfl
  have hdl := decT_len i
  have hw : IntKind.u64.wrap (i : Int) = i := Num.nat64 (by omega)
  have g1 : decide ((i : Int) < 0) = false := by simp
  have g2 : decide ((i : Int) < 100) = true := by simp; omega
  have hA : Hid (Calls Tryd.prog 86 #[v, .int .u64 i, .int .i64 10] w fun e w' => ∃ v', e = .returned v' ∧ TX w' base v' (t ++ decT i) ∧ Below base w w') := by
    show Calls _ _ _ _ _
    generalize hD : (⟨(decT i).toArray⟩ : ByteArray) = D at *
    have hDD : Lib.strCells D = bys (decT i) := by rw [← hD]; rfl
    go_enter Tryd.func86, Tryd.ntmps86
    go_wp2_with (first
      | (go_at_call 131; (with_reducible refine (hs.out _).mono ?_); rintro e w2 ⟨rfl, rfl⟩)
      | (at_builtin; refine Lib.wpList_append_own_string _ rfl _ _ 31 9 rfl base 5 i0 Tryd.underlying31 Tryd.underlying9 hin hz0 hz1 hz2 _ _ _ rfl H.out D rfl (by rw [hsz]; unfold maxLen; omega) (by rw [hsz]; omega) hb ?_))
    intro v' w1 hown hgrow _
    go_wp2
    go_ret
    refine ⟨v', rfl, ?_, (Below.refl base w).grown hgrow hb (fun k hk => (H.out.lt k hk).1)⟩
    show World.ownsRow _ _ _ _ _ _ _
    rw [bys_app, List.length_append]; exact hown
  have hI : Hid (Calls Tryd.prog 85 #[v, .int .i64 i, .int .i64 10] w fun e w' => ∃ v', e = .returned v' ∧ TX w' base v' (t ++ decT i) ∧ Below base w w') := by
    show Calls _ _ _ _ _
    clear hs H h
    go_enter Tryd.func85, Tryd.ntmps85
    go_wp2_with (go_at_call 86; (with_reducible refine hA.out.mono ?_); rintro e w2 ⟨v', rfl, hT, hB⟩; have hT := Lib.hid hT; have hB := Lib.hid hB)
    go_ret
    exact ⟨v', rfl, hT.out, hB.out⟩
  clear hA hs H h
  go_enter Tryd.func42, Tryd.ntmps42
  go_wp2_with (go_at_call 85; (with_reducible refine hI.out.mono ?_); rintro e w2 ⟨v', rfl, hT, hB⟩; have hT := Lib.hid hT; have hB := Lib.hid hB)
  go_ret
  exact ⟨v', rfl, hT.out, hB.out⟩
end Go.Proofs.YtnhpjacodhdpeaaDoor
