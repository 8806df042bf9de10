/-
  LitOver at whatever comes in.
-/
import Derived.Test.YtbpiccbjnagodaaLitI
import Derived.Test.YtbpiccbjnagodaaLitQ
namespace Go.Proofs.Ytbpiccbjnagodaa
open Go.RowKit Go.ChangeShapes Go.WideShapes

theorem lits_of {zs : List Int} (h : ∀ n ∈ zs, (Go.Lit.int .u32 n).wf = true) : ∀ i, IsLit (zs.getD i 0) := by
  intro i
  by_cases hi : i < zs.length
  · have e : zs.getD i 0 = zs[i] := by simp [List.getD, hi]
    rw [e]; exact isLit_of (h _ (List.getElem_mem hi))
  · have e : zs.getD i 0 = 0 := by rw [List.getD_eq_getElem?_getD, List.getElem?_eq_none (by omega)]; rfl
    rw [e]; unfold IsLit; omega
theorem lits_in {w : World} {a : Option Addr} {len cap : Nat} {zs : List Int} (h : IsRow .u32 w a len cap zs) (m : Nat) : ∀ i, IsLit ((zs.take m).getD i 0) := by
  rcases h with ⟨rfl, rfl, rfl, rfl⟩ | ⟨x, rfl, hlc, hcap, hzl, hcell, hwf⟩
  · intro i; unfold IsLit; simp
  · exact lits_of fun n hn => hwf n (List.mem_of_mem_take hn)

theorem over_law (a : Option Addr) (len cap : Nat) (zs one two ws : List Int) (w : World) (h : IsRow .u32 w a len cap zs) (h1 : one.length = 8) (h2 : two.length = 8) (h3 : ws.length = 8)
    (w1 : ∀ n ∈ one, (Go.Lit.int .u32 n).wf = true) (w2 : ∀ n ∈ two, (Go.Lit.int .u32 n).wf = true) (w3 : ∀ n ∈ ws, (Go.Lit.int .u64 n).wf = true) :
    Calls Try.prog 5 #[.slice a len cap, .agg (one.map (Value.int .u32)).toArray, .agg (two.map (Value.int .u32)).toArray, .agg (ws.map (Value.int .u64)).toArray] w fun e w' => e = .returned (.bool true) ∧ Below w.heap.size w w' := by
  obtain ⟨hlc, hcap, hr⟩ := row_of_in h
  exact over_law1 a len cap _ (zs.take len) one two ws w hr (lits_in h len) (lits_of w1) (lits_of w2) (Lib.hid rfl) hcap h1 h2 (Lib.hid h3) (Lib.hid (words_of w3))
end Go.Proofs.Ytbpiccbjnagodaa
