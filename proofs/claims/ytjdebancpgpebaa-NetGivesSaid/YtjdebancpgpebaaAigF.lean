/-
  Or, the Or of two Ands, Xor.
-/
import Derived.Test.YtjdebancpgpebaaAigE
namespace Go.Proofs.Ytjdebancpgpebaa
open Go.RowKit Go.Maps
set_option maxRecDepth 100000

theorem orG_good {G : Gr} (h : Wf G) {a b : Int} (ha : There G a) (hb : There G b) (hl : G.nodes.length ≤ 10000000) : Grows G (orG G a b).1 (orG G a b).2 1 := by
  have g := andG_good h ha.not hb.not hl
  exact ⟨g.wf, g.le, g.there.not, g.len, g.ins⟩
theorem Grows.trans {A B C : Gr} {l m : Int} {j k : Nat} (h : Grows A B l j) (g : Grows B C m k) : Grows A C m (j + k) :=
  ⟨g.wf, h.le.trans g.le, g.there, by have := h.len; have := g.len; omega, g.ins.trans h.ins⟩
theorem eitherG_good {G : Gr} (h : Wf G) {a b c d : Int} (ha : There G a) (hb : There G b) (hc : There G c) (hd : There G d) (hl : G.nodes.length ≤ 9000000) : Grows G (eitherG G a b c d).1 (eitherG G a b c d).2 3 := by
  have g1 := andG_good h ha hb (by omega)
  have l1 := g1.len
  have g2 := andG_good g1.wf (g1.le.there hc) (g1.le.there hd) (by omega)
  have l2 := g2.len
  have g3 := orG_good g2.wf (g2.le.there g1.there) g2.there (by omega)
  exact (g1.trans g2).trans g3
theorem xorG_good {G : Gr} (h : Wf G) {a b : Int} (ha : There G a) (hb : There G b) (hl : G.nodes.length ≤ 9000000) : Grows G (xorG G a b).1 (xorG G a b).2 3 := eitherG_good h ha hb.not ha.not hb hl
theorem muxG_good {G : Gr} (h : Wf G) {c a b : Int} (hc : There G c) (ha : There G a) (hb : There G b) (hl : G.nodes.length ≤ 9000000) : Grows G (muxG G c a b).1 (muxG G c a b).2 3 := eitherG_good h hc ha hc.not hb hl

theorem or_any {w : World} {p : Pl} {G : Gr} (hG : Is w p G) (hW : Wf G) (hm : G.nodes.length ≤ 200000) {a b : Int} (ha : There G a) (hb : There G b) :
    Calls Try.prog 72 #[.pointer (some ⟨p.b, 0, none⟩), .int .u32 a, .int .u32 b] w fun e w' => e = .returned (.tuple #[.int .u32 (orG G a b).2, .int .i64 0]) ∧ ∃ p', Step p w p' w' (orG G a b).1 := by
  have hna := Lib.hid (fun w => not_any a ha.1 w)
  have hnb := Lib.hid (fun w => not_any b hb.1 w)
  have hand := Lib.hid (and_any hG hW hm (notV_lit ha.1) (notV_lit hb.1))
  have hop := Lib.hid (fun w => opposite_any (andG_good hW ha.not hb.not (by omega)).there.1 w)
  unfold orG
  generalize andG G (notV a) (notV b) = r at *
  clear hG hW ha hb
  go_enter Try.func72, Try.ntmps72
  go_wp2_with (first
    | (go_at_call 63; (with_reducible refine (hna.out _).mono ?_); rintro e w2 ⟨rfl, rfl⟩)
    | (go_at_call 63; (with_reducible refine (hnb.out _).mono ?_); rintro e w2 ⟨rfl, rfl⟩)
    | (go_at_call 55; refine hand.out.mono ?_; rintro e w2 ⟨rfl, p', hS⟩)
    | (go_at_call 73; refine (hop.out _).mono ?_; rintro e w3 ⟨rfl, rfl⟩))
  go_ret2
  exact ⟨rfl, p', hS⟩

theorem either_any {w : World} {p : Pl} {G : Gr} (hG : Is w p G) (hW : Wf G) (hm : G.nodes.length ≤ 199000) {a b c d : Int} (ha : There G a) (hb : There G b) (hc : There G c) (hd : There G d) :
    Calls Try.prog 69 #[.pointer (some ⟨p.b, 0, none⟩), .int .u32 a, .int .u32 b, .int .u32 c, .int .u32 d] w fun e w' => e = .returned (.tuple #[.int .u32 (eitherG G a b c d).2, .int .i64 0]) ∧ ∃ p', Step p w p' w' (eitherG G a b c d).1 := by
  have g1 := andG_good hW ha hb (by omega)
  have l1 := g1.len
  have g2 := andG_good g1.wf (g1.le.there hc) (g1.le.there hd) (by omega)
  have l2 := g2.len
  have h1 := Lib.hid (and_any hG hW (by omega) ha.1 hb.1)
  have h2 := Lib.hid (fun (w' : World) (p' : Pl) (hI : Is w' p' (andG G a b).1) => and_any hI g1.wf (by omega) hc.1 hd.1)
  have h3 := Lib.hid (fun (w' : World) (p' : Pl) (hI : Is w' p' (andG (andG G a b).1 c d).1) => or_any hI g2.wf (by omega) (g2.le.there g1.there) g2.there)
  unfold eitherG
  clear hG hW ha hb hc hd g1 l1 g2 l2
  generalize andG G a b = r at *
  generalize andG r.1 c d = s at *
  generalize orG s.1 r.2 s.2 = t at *
  go_enter Try.func69, Try.ntmps69
  go_wp2_with (first
    | (go_at_call 55; (with_reducible refine h1.out.mono ?_); rintro e w2 ⟨rfl, p2, hS2⟩; have hS2 := Lib.hid hS2; have eb2 := hS2.out.b; have k2 := Lib.hid (h2.out w2 p2 hS2.out.is); rw [eb2] at k2)
    | (go_at_call 55; refine k2.out.mono ?_; rintro e w3 ⟨rfl, p3, hS3⟩; have hS3 := Lib.hid hS3; have eb3 := hS3.out.b; have k3 := Lib.hid (h3.out w3 p3 hS3.out.is); rw [eb3, eb2] at k3)
    | (go_at_call 72; refine k3.out.mono ?_; rintro e w4 ⟨rfl, p4, hS4⟩))
  go_ret2
  exact ⟨rfl, p4, (hS2.out.trans hS3.out).trans hS4⟩

theorem xor_any {w : World} {p : Pl} {G : Gr} (hG : Is w p G) (hW : Wf G) (hm : G.nodes.length ≤ 199000) {a b : Int} (ha : There G a) (hb : There G b) :
    Calls Try.prog 56 #[.pointer (some ⟨p.b, 0, none⟩), .int .u32 a, .int .u32 b] w fun e w' => e = .returned (.tuple #[.int .u32 (xorG G a b).2, .int .i64 0]) ∧ ∃ p', Step p w p' w' (xorG G a b).1 := by
  have hna := Lib.hid (fun w => not_any a ha.1 w)
  have hnb := Lib.hid (fun w => not_any b hb.1 w)
  have he := Lib.hid (either_any hG hW hm ha hb.not ha.not hb)
  unfold xorG
  generalize eitherG G a (notV b) (notV a) b = r at *
  clear hG hW ha hb
  go_enter Try.func56, Try.ntmps56
  go_wp2_with (first
    | (go_at_call 63; (with_reducible refine (hna.out _).mono ?_); rintro e w2 ⟨rfl, rfl⟩)
    | (go_at_call 63; (with_reducible refine (hnb.out _).mono ?_); rintro e w2 ⟨rfl, rfl⟩)
    | (go_at_call 69; refine he.out.mono ?_; rintro e w2 ⟨rfl, p', hS⟩))
  go_ret2
  exact ⟨rfl, p', hS⟩
end Go.Proofs.Ytjdebancpgpebaa
