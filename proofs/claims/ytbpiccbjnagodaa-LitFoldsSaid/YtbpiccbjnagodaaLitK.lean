/-
  LitFolds at whatever comes in.
-/
import Derived.Test.YtbpiccbjnagodaaLitI
import Derived.Test.YtbpiccbjnagodaaLitJt
import Derived.Test.YtbpiccbjnagodaaLitJf
namespace Go.Proofs.Ytbpiccbjnagodaa
open Go.RowKit Go.ChangeShapes Go.WideShapes

theorem folds_law (a b : Int) (p : Option Addr) (len cap : Nat) (zs : List Int) (w : World) (ha : (Go.Lit.int .u32 a).wf = true) (hb : (Go.Lit.int .u32 b).wf = true) (h : IsRow .u64 w p len cap zs) :
    Calls Try.prog 4 #[.int .u32 a, .int .u32 b, .slice p len cap] w fun e w' => e = .returned (.bool true) ∧ Below w.heap.size w w' := by
  obtain ⟨hlc, hcap, hr⟩ := row_of_in h
  have hw := words_in h len
  have ha' := isLit_of ha
  have hb' := isLit_of hb
  obtain ⟨m, hm⟩ : ∃ m : Nat, m = if len ≤ 60 then len else 60 := ⟨_, rfl⟩
  have hml : m ≤ len := by rw [hm]; split <;> omega
  have hz := words_take hw m
  have HK := folds_k (a % 120) (b % 120) p m cap ((zs.take len).take m) w (by have := ha'.1; omega) (by omega) (by have := hb'.1; omega) (by omega) (hr.take m hml) hz
  have bw := wordV_bd hz (a % 120)
  have hN : 18446744073709551615 - wordV (a % 120) ((zs.take len).take m) = bits .xor .u64 IntKind.u64.max (wordV (a % 120) ((zs.take len).take m)) := (Num.not64 bw.1 bw.2).symm
  cases hB : foldB (a % 120) (b % 120) with
  | true =>
    rw [hB] at HK
    exact folds_t a b _ _ _ _ _ _ _ _ _ _ _ p m len cap w (Lib.hid HK) ha'.1 ha'.2 hb'.1 hb'.2 rfl rfl rfl (bnef hN) (Lib.hid hN) hlc hcap hm
  | false =>
    rw [hB] at HK
    obtain ⟨g1, g2, g3⟩ := foldB_no (by have := ha'.1; omega) (by have := hb'.1; omega) hB
    exact folds_f a b _ _ _ _ _ _ _ _ _ _ _ p m len cap w (Lib.hid HK) ha'.1 ha'.2 hb'.1 hb'.2 rfl rfl rfl (bnef hN) (Lib.hid hN) (bnet (by simpa using g1)) (by simpa using g2) (by simpa using g3) hlc hcap hm
end Go.Proofs.Ytbpiccbjnagodaa
