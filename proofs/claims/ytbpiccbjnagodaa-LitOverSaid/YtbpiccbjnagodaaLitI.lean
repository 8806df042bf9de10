/-
  LitOnes at whatever comes in.
-/
import Derived.Test.YtbpiccbjnagodaaLift
import Derived.Test.YtbpiccbjnagodaaLitH0
import Derived.Test.YtbpiccbjnagodaaLitH1
import Derived.Test.YtbpiccbjnagodaaLitH2
import Derived.Test.YtbpiccbjnagodaaLitH3
namespace Go.Proofs.Ytbpiccbjnagodaa
open Go.RowKit Go.ChangeShapes Go.WideShapes

theorem words_of {zs : List Int} (h : ∀ n ∈ zs, (Lit.int .u64 n).wf = true) : Words zs := by
  intro i
  by_cases hi : i < zs.length
  · have e : zs.getD i 0 = zs[i] := by simp [List.getD, hi]
    have := bounds_u64 (h _ (List.getElem_mem hi))
    rw [e]; omega
  · have e : zs.getD i 0 = 0 := by rw [List.getD_eq_getElem?_getD, List.getElem?_eq_none (by omega)]; rfl
    rw [e]; omega
theorem isLit_of {l : Int} (h : (Go.Lit.int .u32 l).wf = true) : IsLit l := by
  have := bounds_u32 h
  unfold IsLit; omega
theorem words_take' {zs : List Int} (h : Words zs) (m : Nat) : Words (zs.take m) := words_take h m

/-- A slice that came in, as the walks name it: as much of it as its length says. -/
theorem row_of_in {k : IntKind} {w : World} {a : Option Addr} {len cap : Nat} {zs : List Int} (h : IsRow k w a len cap zs) : len ≤ cap ∧ cap ≤ 9223372036854775807 ∧ Row k w a len (zs.take len) := by
  rcases h with ⟨rfl, rfl, rfl, rfl⟩ | ⟨x, rfl, hlc, hcap, hzl, hcell, hwf⟩
  · exact ⟨by omega, by omega, rfl, by omega, .inl rfl⟩
  · unfold maxLen at hcap
    refine ⟨hlc, by omega, by rw [List.length_take]; omega, by omega, ?_⟩
    by_cases h0 : len = 0
    · exact .inl h0
    · right
      obtain ⟨b, off, rfl, hc⟩ := ints_at hcell (by omega)
      refine ⟨b, off, rfl, World.block_lt_of_cell? w ⟨b, off + 0, none⟩ (hc 0 (by omega)), fun i hi => ?_⟩
      rw [hc i (by omega)]
      have : (zs.take len).getD i 0 = zs.getD i 0 := by simp [List.getD, hi]
      rw [this]
theorem words_in {w : World} {a : Option Addr} {len cap : Nat} {zs : List Int} (h : IsRow .u64 w a len cap zs) (m : Nat) : Words (zs.take m) := by
  rcases h with ⟨rfl, rfl, rfl, rfl⟩ | ⟨x, rfl, hlc, hcap, hzl, hcell, hwf⟩
  · intro i; simp
  · exact words_take (words_of hwf) m

theorem ones_law (a b n : Int) (t : Bool) (p : Option Addr) (len cap : Nat) (zs : List Int) (w : World) (ha : (Go.Lit.int .u32 a).wf = true) (hb : (Go.Lit.int .u32 b).wf = true) (hn : (Go.Lit.int .i64 n).wf = true) (h : IsRow .u64 w p len cap zs) :
    Calls Try.prog 3 #[.int .u32 a, .int .u32 b, .int .i64 n, .bool t, .slice p len cap] w fun e w' => e = .returned (.bool true) ∧ Below w.heap.size w w' := by
  obtain ⟨hlc, hcap, hr⟩ := row_of_in h
  have hw := words_in h len
  have hi := isLit_of ha
  have hn' := bounds_i64 hn
  obtain ⟨m, hm⟩ : ∃ m : Nat, m = if len ≤ 50 then len else 50 := ⟨_, rfl⟩
  have hml : m ≤ len := by rw [hm]; split <;> omega
  have HK := Lib.hid (ones_k a b n t p m cap ((zs.take len).take m) w hi (isLit_of hb) (by omega) (hr.take m hml) (words_take hw m))
  by_cases hab : a < b
  · cases t
    · exact ones_fl a b n p m len cap _ w HK hi.1 hi.2 hlc hcap hm hab
    · exact ones_tl a b n p m len cap _ w HK hi.1 hi.2 hlc hcap hm hab
  · cases t
    · exact ones_fg a b n p m len cap _ w HK hi.1 hi.2 hlc hcap hm (by omega)
    · exact ones_tg a b n p m len cap _ w HK hi.1 hi.2 hlc hcap hm (by omega)
end Go.Proofs.Ytbpiccbjnagodaa
