/-
  The document's own graph: Two, both.
-/
import Derived.Test.YtmljpbbnllfgbaaRfB
namespace Go.Proofs.Ytmljpbbnllfgbaa
open Go.RowKit Go.Maps Num
set_option maxRecDepth 100000

/-- What a call of two comes to. -/
def RTwo (N : Nat) (op : Int) (T : Gr → Int → Int → Gr × Int) : Prop := ∀ (w0 w : World) (B g c : Nat) (G : Gr) (a b : Int), Rf w0 w B g c G.fold G.hash G.nodes → Wf G → G.nodes.length ≤ N → There G a → There G b →
    Calls Try.prog 32 #[.pointer (some ⟨B, 0, none⟩), .int .i64 op, .int .u32 a, .int .u32 b] w fun e w' => e = .returned (.tuple #[.int .u32 (T G a b).2, .int .i64 0]) ∧ ∃ g1 c1, Rf w0 w' B g1 c1 G.fold G.hash (T G a b).1.nodes ∧ Kept (RK w) w w'

theorem rtwo_and : RTwo 199000 1 andG := by
  intro w0 w B g c G a b h hW hm ha hb
  have hand := Lib.hid (rand_any h hW (by omega) ha.1 hb.1)
  clear h hW ha hb
  generalize (andG G a b) = r at *
  go_enter Try.func32, Try.ntmps32
  go_wp2_with (go_at_call 58; (with_reducible refine hand.out.mono ?_); rintro e w3 ⟨rfl, g3, c3, hR3, hK3⟩)
  go_ret2
  exact ⟨rfl, g3, c3, hR3, hK3⟩

theorem rtwo_or : RTwo 199000 2 orG := by
  intro w0 w B g c G a b h hW hm ha hb
  have hand := Lib.hid (rand_any h hW (by omega) ha.not.1 hb.not.1)
  have hgd := andG_good hW ha.not hb.not (by omega)
  have hn1 := Lib.hid (fun w => rnot_any a ha.1 w)
  have hn2 := Lib.hid (fun w => rnot_any b hb.1 w)
  have hn3 := Lib.hid (fun w => rnot_any _ hgd.there.1 w)
  clear h hW ha hb hgd
  unfold orG
  generalize (andG G (notV a) (notV b)) = r at *
  go_enter Try.func32, Try.ntmps32
  go_wp2_with (first
    | (go_at_call 58; (with_reducible refine hand.out.mono ?_); rintro e w3 ⟨rfl, g3, c3, hR3, hK3⟩)
    | (go_at_call 59; (with_reducible refine (hn1.out _).mono ?_); rintro e w3 ⟨rfl, rfl⟩)
    | (go_at_call 59; (with_reducible refine (hn2.out _).mono ?_); rintro e w3 ⟨rfl, rfl⟩)
    | (go_at_call 59; (with_reducible refine (hn3.out _).mono ?_); rintro e w4 ⟨rfl, rfl⟩))
  go_ret2
  exact ⟨rfl, g3, c3, hR3, hK3⟩

theorem rboth_any {w0 w : World} {B g c : Nat} {G : Gr} {x y z t : Int} (h : Rf w0 w B g c G.fold G.hash G.nodes) (hW : Wf G) (hm : G.nodes.length ≤ 190000) (hx : There G x) (hy : There G y) (hz : There G z) (ht : There G t) :
    Calls Try.prog 60 #[.pointer (some ⟨B, 0, none⟩), .int .u32 x, .int .u32 y, .int .u32 z, .int .u32 t] w fun e w' => e = .returned (.tuple #[.int .u32 (eitherG G x y z t).2, .int .i64 0]) ∧ ∃ g1 c1, Rf w0 w' B g1 c1 G.fold G.hash (eitherG G x y z t).1.nodes ∧ Kept (RK w) w w' := by
  have g1 := andG_good hW hx hy (by omega)
  have l1 := g1.len
  have g2 := andG_good g1.wf (g1.le.there hz) (g1.le.there ht) (by omega)
  have l2 := g2.len
  have h1 := Lib.hid (rand_any h hW (by omega) hx.1 hy.1)
  have h2 := Lib.hid (fun w2 g c (hR : Rf w0 w2 B g c (andG G x y).1.fold (andG G x y).1.hash (andG G x y).1.nodes) => rand_any hR g1.wf (by omega) hz.1 ht.1)
  have h3 := Lib.hid (fun w2 g c (hR : Rf w0 w2 B g c (andG (andG G x y).1 z t).1.fold (andG (andG G x y).1 z t).1.hash (andG (andG G x y).1 z t).1.nodes) => rtwo_or w0 w2 B g c _ _ _ hR g2.wf (by omega) (g2.le.there g1.there) g2.there)
  have e1 := Lib.hid (And.intro g1.le.fold g1.le.hash)
  have e2 := Lib.hid (And.intro g2.le.fold g2.le.hash)
  clear h hW hx hy hz ht g1 g2 l1 l2
  unfold eitherG
  generalize (andG G x y) = r1 at *
  generalize (andG r1.1 z t) = r2 at *
  generalize (orG r2.1 r1.2 r2.2) = r3 at *
  go_enter Try.func60, Try.ntmps60
  go_wp2_with (first
    | (go_at_call 58; (with_reducible refine h1.out.mono ?_); rintro e w3 ⟨rfl, g3, c3, hR3, hK3⟩; rw [← e1.out.1, ← e1.out.2] at hR3; have h22 := Lib.hid (h2.out _ _ _ hR3))
    | (go_at_call 58; (with_reducible refine h22.out.mono ?_); rintro e w4 ⟨rfl, g4, c4, hR4, hK4⟩; rw [← e2.out.1, ← e2.out.2] at hR4; have h33 := Lib.hid (h3.out _ _ _ hR4))
    | (go_at_call 32; (with_reducible refine h33.out.mono ?_); rintro e w5 ⟨rfl, g5, c5, hR5, hK5⟩))
  go_ret2
  refine ⟨rfl, g5, c5, ?_, RK.trans hK3 (RK.trans hK4 hK5)⟩
  rw [e2.out.1, e2.out.2, e1.out.1, e1.out.2] at hR5
  exact hR5

theorem rtwo_xor : RTwo 190000 3 xorG := by
  intro w0 w B g c G a b h hW hm ha hb
  have hn1 := Lib.hid (fun w => rnot_any a ha.1 w)
  have hn2 := Lib.hid (fun w => rnot_any b hb.1 w)
  have hbo := Lib.hid (fun (h9 : G.nodes.length ≤ 190000) => rboth_any h hW h9 ha hb.not ha.not hb)
  clear h hW ha hb
  unfold xorG
  generalize (eitherG G a (notV b) (notV a) b) = r at *
  go_enter Try.func32, Try.ntmps32
  go_wp2_with (first
    | (go_at_call 60; (with_reducible refine (hbo.out hm).mono ?_); rintro e w3 ⟨rfl, g3, c3, hR3, hK3⟩)
    | (go_at_call 59; (with_reducible refine (hn1.out _).mono ?_); rintro e w3 ⟨rfl, rfl⟩)
    | (go_at_call 59; (with_reducible refine (hn2.out _).mono ?_); rintro e w3 ⟨rfl, rfl⟩))
  go_ret2
  exact ⟨rfl, g3, c3, hR3, hK3⟩
end Go.Proofs.Ytmljpbbnllfgbaa
