/-
  The chapter's rows: plain, tells.
-/
import Derived.Test.YtmljpbbnllfgbaaConeX
namespace Go.Proofs.Ytmljpbbnllfgbaa
open Go.RowKit Go.Maps Num
set_option maxRecDepth 100000

def S5 : Nat → Int × Int × Int
  | 3 => (1, 2, 4)
  | 4 => (1, 9, 6)
  | _ => (0, 0, 0)
def plainG : Gr := ⟨false, false, [⟨false, 0, 0⟩, ⟨false, 0, 0⟩, ⟨false, 0, 0⟩, ⟨false, 0, 0⟩, ⟨true, 4, 2⟩, ⟨true, 9, 6⟩], [1, 2, 3]⟩
theorem plainG_eq : buildG false false S5 (min 5 60) = plainG := by kernel_rfl
theorem steps5 (w : World) : Steps (w.alloc (.cells #[.int .i64 0, .int .u32 0, .int .u32 0, .int .i64 0, .int .u32 0, .int .u32 0, .int .i64 0, .int .u32 0, .int .u32 0, .int .i64 1, .int .u32 2, .int .u32 4, .int .i64 1, .int .u32 9, .int .u32 6] 69)) (some ⟨w.heap.size, 0, none⟩) 5 S5 := by
  refine ⟨fun i => ?_, by omega, .inr ⟨w.heap.size, 0, rfl, by simp, fun i hi => ?_⟩⟩
  · match i with
    | 0 => unfold IsLit; decide
    | 1 => unfold IsLit; decide
    | 2 => unfold IsLit; decide
    | 3 => unfold IsLit; decide
    | 4 => unfold IsLit; decide
    | i + 5 => unfold IsLit; simp [S5]
  · match i, hi with
    | 0, _ => refine ⟨?_, ?_, ?_⟩ <;> simp [go_sem, S5]
    | 1, _ => refine ⟨?_, ?_, ?_⟩ <;> simp [go_sem, S5]
    | 2, _ => refine ⟨?_, ?_, ?_⟩ <;> simp [go_sem, S5]
    | 3, _ => refine ⟨?_, ?_, ?_⟩ <;> simp [go_sem, S5]
    | 4, _ => refine ⟨?_, ?_, ?_⟩ <;> simp [go_sem, S5]
    | i + 5, h => omega

theorem plain_any (w : World) :
    Calls Try.prog 28 #[] w fun e w' => ∃ B p, e = .returned (.pointer (some ⟨B, 0, none⟩)) ∧ AtG w B w' p plainG := by
  have hb := Lib.hid (Build_any false false (cap := 5) (steps5 w))
  have hbase := Lib.hid (fun B w2 p (h : AtG (w.alloc (.cells #[.int .i64 0, .int .u32 0, .int .u32 0, .int .i64 0, .int .u32 0, .int .u32 0, .int .i64 0, .int .u32 0, .int .u32 0, .int .i64 1, .int .u32 2, .int .u32 4, .int .i64 1, .int .u32 9, .int .u32 6] 69)) B w2 p plainG) => h.base ((Below.refl w.heap.size w).alloc (Nat.le_refl _) _))
  rw [plainG_eq] at hb
  go_enter Try.func28, Try.ntmps28
  go_wp2_with (go_at_call 7; (with_reducible refine hb.out.mono ?_); rintro e w2 ⟨B, B2, p, rfl, hA⟩; have hA := Lib.hid (hbase.out _ _ _ hA))
  go_ret
  exact ⟨B, p, rfl, hA.out⟩

theorem row1 (w : World) (x : Int) (T : Nat) : Row .u32 (w.alloc (.cells #[.int .u32 x] T)) (some ⟨w.heap.size, 0, none⟩) 1 [x] := by
  refine ⟨rfl, by omega, .inr ⟨w.heap.size, 0, rfl, by simp, fun i hi => ?_⟩⟩
  match i, hi with
  | 0, _ => simp [go_sem]
  | i + 1, h => omega
theorem rowI3 (w : World) (x y z : Int) (T : Nat) : Row .i64 (w.alloc (.cells #[.int .i64 x, .int .i64 y, .int .i64 z] T)) (some ⟨w.heap.size, 0, none⟩) 3 [x, y, z] := by
  refine ⟨rfl, by omega, .inr ⟨w.heap.size, 0, rfl, by simp, fun i hi => ?_⟩⟩
  match i, hi with
  | 0, _ => simp [go_sem]
  | 1, _ => simp [go_sem]
  | 2, _ => simp [go_sem]
  | i + 3, h => omega

def toG : Gr := inputG (inputG (inputG (newG true false)))
def toG2 : Gr := addN toG 6 5
structure TellS (w wk wr : World) (B : Nat) (p : Pl) (Bt : Nat) (pt : Pl) (T : Gr) (a b : Option Addr) : Prop where
  g : AtG w B wr p plainG
  t : AtG wk Bt wr pt T
  ap : Apart pt p
  ra : Row .i64 wr a 3 [1, 2, 4]
  rb : Row .i64 wr b 3 [1, 2, 3]
  fa : ∀ x, a = some x → x.block < wk.heap.size
  fb : ∀ x, b = some x → x.block < wk.heap.size
  bw : Below w.heap.size w wk
theorem TellS.step {w wk wr w2 : World} {B Bt : Nat} {p pt : Pl} {T : Gr} {a b : Option Addr} (h : TellS w wk wr B p Bt pt T a b) (hb : Below wr.heap.size wr w2) : TellS w wk w2 B p Bt pt T a b :=
  ⟨h.g.step hb, h.t.step hb, h.ap, h.ra.step hb, h.rb.step hb, h.fa, h.fb, h.bw⟩
theorem TellS.next {w wk wr w2 : World} {B Bt : Nat} {p pt p2 : Pl} {T T2 : Gr} {a b : Option Addr} (h : TellS w wk wr B p Bt pt T a b) (hS : Step pt wr p2 w2 T2) (hW : Wf T2) (hl : T2.nodes.length ≤ 100000) : TellS w wk w2 B p Bt p2 T2 a b := by
  have ht := h.t.next hS hW hl
  exact ⟨h.g.apart h.ap hS.kept (h.bw.trans (ht.below.mono h.bw.size)), ht, h.ap.step hS h.g.is, h.ra.kept hS.kept (fun x hx _ hh => by have := h.t.out _ hh; have := h.fa x hx; omega), h.rb.kept hS.kept (fun x hx _ hh => by have := h.t.out _ hh; have := h.fb x hx; omega), h.fa, h.fb, h.bw⟩
theorem tells_new {w wk wr : World} {B : Nat} {p pt : Pl} {a b : Option Addr} (hg : AtG w B wk p plainG) (ht : AtG wk pt.b wr pt (newG true false)) (hb : Below wk.heap.size wk wr) (ra : Row .i64 wk a 3 [1, 2, 4]) (rb : Row .i64 wk b 3 [1, 2, 3]) : TellS w wk wr B p pt.b pt (newG true false) a b :=
  ⟨hg.step hb, ht, Apart.new ht.out hg.is, ra.step hb, rb.step hb, fun x hx => by
    obtain ⟨b, off, e, hbl, -⟩ := ra.at (by omega)
    rw [hx] at e; cases e; exact hbl, fun x hx => by
    obtain ⟨b, off, e, hbl, -⟩ := rb.at (by omega)
    rw [hx] at e; cases e; exact hbl, hg.below⟩

theorem there8 : AllThere plainG [8] := by intro x hx; simp at hx; subst hx; unfold There IsLit; decide
theorem there10 : AllThere plainG [10] := by intro x hx; simp at hx; subst hx; unfold There IsLit; decide
theorem reach8 (hW : Wf plainG) : reachL plainG [8] = [1, 2, 4] := by rw [reach_eq hW there8]; kernel_rfl
theorem sup10 (hW : Wf plainG) : supL plainG [10] = [1, 2, 3] := by rw [sup_eq hW there10]; kernel_rfl
theorem dep10 (hW : Wf plainG) : depL plainG [10] = 2 := by rw [dep_eq hW there10]; kernel_rfl
theorem copy10 (hW : Wf plainG) : copyG plainG [10] toG [1, 4, 6] = (toG2, [0, 1, 4, 6, 4, 8]) := by rw [copy_eq hW there10]; kernel_rfl

set_option maxHeartbeats 4000000 in
theorem tells_any (w : World) :
    Calls Try.prog 21 #[] w fun e w' => e = .returned (.bool true) ∧ Below w.heap.size w w' := by
  have hpl := Lib.hid (plain_any w)
  have hre := Lib.hid (fun B wk p (h : AtG w B wk p plainG) =>
    have hb := (Below.refl wk.heap.size wk).alloc (Nat.le_refl _) (.cells #[.int .u32 8] 40)
    have hc := Reach_any (c := 1) (h.is.below hb) h.wf (by decide) (row1 wk 8 40) there8
    show Calls Try.prog 18 #[.pointer (some ⟨B, 0, none⟩), .slice (some ⟨wk.heap.size, 0, none⟩) 1 1] (wk.alloc (.cells #[.int .u32 8] 40)) fun e w' => ∃ a2 c2, e = .returned (.tuple #[.slice a2 3 c2, .int .i64 0]) ∧ Row .i64 w' a2 3 [1, 2, 4] ∧ AtG w B w' p plainG from by
      rw [reach8 h.wf, h.b] at hc
      exact hc.mono (fun e w' ⟨a2, c2, he, ht⟩ => ⟨a2, c2, he, ht.row (by decide), (h.step hb).step ht.below⟩))
  have hsu := Lib.hid (fun B wk p a (h : AtG w B wk p plainG) (hr : Row .i64 wk a 3 [1, 2, 4]) =>
    have hb := (Below.refl wk.heap.size wk).alloc (Nat.le_refl _) (.cells #[.int .u32 10] 40)
    have hc := Support_any (c := 1) (h.is.below hb) h.wf (by decide) (row1 wk 10 40) there10
    show Calls Try.prog 19 #[.pointer (some ⟨B, 0, none⟩), .slice (some ⟨wk.heap.size, 0, none⟩) 1 1] (wk.alloc (.cells #[.int .u32 10] 40)) fun e w' => ∃ a2 c2, e = .returned (.tuple #[.slice a2 3 c2, .int .i64 0]) ∧ Row .i64 w' a2 3 [1, 2, 3] ∧ Row .i64 w' a 3 [1, 2, 4] ∧ AtG w B w' p plainG from by
      rw [sup10 h.wf, h.b] at hc
      exact hc.mono (fun e w' ⟨a2, c2, he, ht⟩ => ⟨a2, c2, he, ht.row (by decide), (hr.step hb).step ht.below, (h.step hb).step ht.below⟩))
  have hde := Lib.hid (fun B wk p a b (h : AtG w B wk p plainG) (ra : Row .i64 wk a 3 [1, 2, 4]) (rb : Row .i64 wk b 3 [1, 2, 3]) =>
    have hb := (Below.refl wk.heap.size wk).alloc (Nat.le_refl _) (.cells #[.int .u32 10] 40)
    have hc := Depth_any (c := 1) (h.is.below hb) h.wf (by decide) (row1 wk 10 40) there10
    show Calls Try.prog 24 #[.pointer (some ⟨B, 0, none⟩), .slice (some ⟨wk.heap.size, 0, none⟩) 1 1] (wk.alloc (.cells #[.int .u32 10] 40)) fun e w' => e = .returned (.tuple #[.int .i64 2, .int .i64 0]) ∧ Row .i64 w' a 3 [1, 2, 4] ∧ Row .i64 w' b 3 [1, 2, 3] ∧ AtG w B w' p plainG from by
      rw [dep10 h.wf, h.b] at hc
      exact hc.mono (fun e w' ⟨he, hB⟩ => ⟨he, (ra.step hb).step hB, (rb.step hb).step hB, (h.step hb).step hB⟩))
  have hne := Lib.hid (fun B wk p a b (h : AtG w B wk p plainG) (ra : Row .i64 wk a 3 [1, 2, 4]) (rb : Row .i64 wk b 3 [1, 2, 3]) =>
    show Calls Try.prog 26 #[.agg #[.bool true, .bool false]] wk fun e w' => ∃ pt : Pl, e = .returned (.pointer (some ⟨pt.b, 0, none⟩)) ∧ TellS w wk w' B p pt.b pt (newG true false) a b from
      (new_any true false wk).mono (fun e w' ⟨pt, he, hI, hB, ho⟩ => ⟨pt, he, tells_new h (atg_new (Below.refl _ _) hI hB ho) hB ra rb⟩))
  have hip := Lib.hid (fun wk wr B p Bt pt T a b (h : TellS w wk wr B p Bt pt T a b) (hl : T.nodes.length ≤ 50) =>
    show Calls Try.prog 27 #[.pointer (some ⟨Bt, 0, none⟩)] wr fun e w' => (∃ v, e = .returned v) ∧ ∃ p2, TellS w wk w' B p Bt p2 (inputG T) a b from
      (h.t.inputS (by omega)).mono (fun e w' ⟨he, p2, _, hS⟩ => ⟨⟨_, he⟩, p2, h.next hS (Wf_inputG h.t.wf) (by rw [inputG_len]; omega)⟩))
  have hcp := Lib.hid (fun wk wr B p Bt pt a b (h : TellS w wk wr B p Bt pt toG a b) =>
    have hb1 := (Below.refl wr.heap.size wr).alloc (Nat.le_refl _) (.cells #[.int .u32 1, .int .u32 4, .int .u32 6] 40)
    have hb2 := (Below.refl (wr.alloc (.cells #[.int .u32 1, .int .u32 4, .int .u32 6] 40)).heap.size _).alloc (Nat.le_refl _) (.cells #[.int .u32 10] 40)
    have h2 := (h.step hb1).step hb2
    have hc := CopyL_any (bc := 3) (c := 1) h2.t.is h2.t.wf (by decide) h2.g.is h2.g.wf (by decide) h2.ap ((row3 wr 1 4 6 40).step hb2) (by intro x hx; simp at hx; rcases hx with rfl | rfl | rfl <;> (unfold There IsLit; decide)) (row1 _ 10 40) (fun x hx _ hh => by cases hx; have := h.t.is.has_lt hh; simp at this; omega) there10 (by decide)
    show Calls Try.prog 13 #[.pointer (some ⟨Bt, 0, none⟩), .pointer (some ⟨B, 0, none⟩), .slice (some ⟨wr.heap.size, 0, none⟩) 3 3, .slice (some ⟨wr.heap.size + 1, 0, none⟩) 1 1] ((wr.alloc (.cells #[.int .u32 1, .int .u32 4, .int .u32 6] 40)).alloc (.cells #[.int .u32 10] 40)) fun e w' => ∃ p2 g, e = .returned (.tuple #[.slice (some ⟨g, 0, none⟩) 1 1, .int .i64 0]) ∧ TellS w wk w' B p Bt p2 toG2 a b ∧ w'.cell? ⟨g, 0, none⟩ = some (.int .u32 8) ∧ g < w'.heap.size from by
      rw [copy10 h.g.wf, h2.t.b, h2.g.b] at hc
      have e1 : (wr.alloc (.cells #[.int .u32 1, .int .u32 4, .int .u32 6] 40)).heap.size = wr.heap.size + 1 := by simp
      rw [e1] at hc
      refine hc.mono (fun e w' ⟨p2, g, he, hC⟩ => ⟨p2, g, he, h2.next hC.step ?_ (by decide), ?_, own_lt hC.row⟩)
      · exact Wf_addN h.t.wf (by unfold There IsLit; decide) (by unfold There IsLit; decide) (by decide)
      · rw [hC.row.cellAt (j := 0) (by decide)]; rfl)
  have hga := Lib.hid (fun wk wr B p Bt pt a b (h : TellS w wk wr B p Bt pt toG2 a b) =>
    show Calls Try.prog 17 #[.pointer (some ⟨Bt, 0, none⟩), .int .i64 4] wr fun e w' => e = .returned (.tuple #[.int .u32 6, .int .u32 5, .bool true]) ∧ TellS w wk w' B p Bt pt toG2 a b ∧ Below wr.heap.size wr w' from by
      have hI := h.t.is
      have := Gate_any hI h.t.wf (by decide) (j := 4) (by decide)
      rw [h.t.b] at this
      exact this.mono (fun e w' ⟨he, hB⟩ => ⟨he, h.step hB, hB⟩))
  have hno : Hid (∀ w2, Calls Try.prog 22 #[.int .u32 8] w2 fun e w' => e = .returned (.int .i64 4) ∧ w2 = w') := Lib.hid (fun w2 => node_any 8 (by unfold IsLit; decide) w2)
  have htu : Hid (∀ w2, Calls Try.prog 44 #[.int .u32 8] w2 fun e w' => e = .returned (.bool false) ∧ w2 = w') := Lib.hid (fun w2 => turned_any 8 (by unfold IsLit; decide) w2)
  have his := Lib.hid (fun wk wr B p Bt pt a b ca (h : TellS w wk wr B p Bt pt toG2 a b) =>
    have hb := (Below.refl wr.heap.size wr).alloc (Nat.le_refl _) (.cells #[.int .i64 1, .int .i64 2, .int .i64 4] 3)
    show Calls Try.prog 53 #[.slice a 3 ca, .slice (some ⟨wr.heap.size, 0, none⟩) 3 3] (wr.alloc (.cells #[.int .i64 1, .int .i64 2, .int .i64 4] 3)) fun e w' => e = .returned (.bool true) ∧ TellS w wk w' B p Bt pt toG2 a b ∧ Below wr.heap.size wr w' from
      (ints_same (h.step hb).ra (rowI3 wr 1 2 4 3)).mono (fun e w' ⟨he, hB⟩ => ⟨he, (h.step hb).step hB, nextw hb hB⟩))
  have hit := Lib.hid (fun wk wr B p Bt pt a b cb (h : TellS w wk wr B p Bt pt toG2 a b) =>
    have hb := (Below.refl wr.heap.size wr).alloc (Nat.le_refl _) (.cells #[.int .i64 1, .int .i64 2, .int .i64 3] 3)
    show Calls Try.prog 53 #[.slice b 3 cb, .slice (some ⟨wr.heap.size, 0, none⟩) 3 3] (wr.alloc (.cells #[.int .i64 1, .int .i64 2, .int .i64 3] 3)) fun e w' => e = .returned (.bool true) ∧ TellS w wk w' B p Bt pt toG2 a b ∧ Below wr.heap.size wr w' from
      (ints_same (h.step hb).rb (rowI3 wr 1 2 3 3)).mono (fun e w' ⟨he, hB⟩ => ⟨he, (h.step hb).step hB, nextw hb hB⟩))
  have hend := Lib.hid (fun wk wr B p Bt pt T a b (h : TellS w wk wr B p Bt pt T a b) => show Below w.heap.size w wr from h.g.below)
  go_enter Try.func21, Try.ntmps21
  go_wp2_with (first
    | (go_at_call 28; (with_reducible refine hpl.out.mono ?_); rintro e w1 ⟨B, p, rfl, hA⟩; have hre1 := Lib.hid (hre.out _ _ _ hA); clear hA hpl)
    | (go_at_call 18; (with_reducible refine hre1.out.mono ?_); rintro e w2 ⟨a, ca, rfl, ra, hA⟩; have hsu1 := Lib.hid (hsu.out _ _ _ _ hA ra); clear hA ra hre1)
    | (go_at_call 19; (with_reducible refine hsu1.out.mono ?_); rintro e w3 ⟨b, cb, rfl, rb, ra, hA⟩; have hde1 := Lib.hid (hde.out _ _ _ _ _ hA ra rb); clear hA ra rb hsu1)
    | (go_at_call 24; (with_reducible refine hde1.out.mono ?_); rintro e w4 ⟨rfl, ra, rb, hA⟩; have hne1 := Lib.hid (hne.out _ _ _ _ _ hA ra rb); clear hA ra rb hde1)
    | (go_at_call 26; (with_reducible refine hne1.out.mono ?_); rintro e w5 ⟨pt, rfl, hT⟩; have hi1 := Lib.hid (hip.out _ _ _ _ _ _ _ _ _ hT (by decide)); clear hT hne1)
    | (go_at_call 27; (with_reducible refine hi1.out.mono ?_); rintro e w6 ⟨⟨v6, rfl⟩, p6, hT⟩; have hi2 := Lib.hid (hip.out _ _ _ _ _ _ _ _ _ hT (by decide)); clear hT hi1)
    | (go_at_call 27; (with_reducible refine hi2.out.mono ?_); rintro e w7 ⟨⟨v7, rfl⟩, p7, hT⟩; have hi3 := Lib.hid (hip.out _ _ _ _ _ _ _ _ _ hT (by decide)); clear hT hi2)
    | (go_at_call 27; (with_reducible refine hi3.out.mono ?_); rintro e w8 ⟨⟨v8, rfl⟩, p8, hT⟩; have hc1 := Lib.hid (hcp.out _ _ _ _ _ _ _ _ hT); clear hT hi3)
    | (go_at_call 13; (with_reducible refine hc1.out.mono ?_); rintro e w9 ⟨p9, g9, rfl, hT, k9, l9⟩; have hg1 := Lib.hid (hga.out _ _ _ _ _ _ _ _ hT); clear hT hc1)
    | (go_at_call 22; (with_reducible refine (hno.out _).mono ?_); rintro e w10 ⟨rfl, rfl⟩)
    | (go_at_call 17; (with_reducible refine hg1.out.mono ?_); rintro e w11 ⟨rfl, hT, hB⟩; have k11 := stepc hB l9 k9; have l11 := Nat.lt_of_lt_of_le l9 hB.size; have hs1 := Lib.hid (his.out _ _ _ _ _ _ _ _ ca hT); clear hT hB hg1 k9 l9)
    | (go_at_call 53; (with_reducible refine hs1.out.mono ?_); rintro e w12 ⟨rfl, hT, hB⟩; have k12 := stepc hB l11 k11; have l12 := Nat.lt_of_lt_of_le l11 hB.size; have hs2 := Lib.hid (hit.out _ _ _ _ _ _ _ _ cb hT); clear hT hB hs1 k11 l11)
    | (go_at_call 53; (with_reducible refine hs2.out.mono ?_); rintro e w13 ⟨rfl, hT, hB⟩; have k13 := stepc hB l12 k12; have he1 := Lib.hid (hend.out _ _ _ _ _ _ _ _ _ hT); clear hT hB hs2 k12 l12)
    | (go_at_call 44; (with_reducible refine (htu.out _).mono ?_); rintro e w14 ⟨rfl, rfl⟩))
  go_ret
  exact ⟨rfl, he1.out⟩
end Go.Proofs.Ytmljpbbnllfgbaa
