/-
  The library's contracts laid at this program's numbers (written by wip/tools/shelf2.py for one seat).
  Package emit: Lines.
  The law package's own: a netlist of steps, and the document's.
  EmitTells: what the two netlists tell, in one.
-/
import Derived.Test.YtafoohdndlhbnaaGreatDoorProg
import Derived.Shelf.Strings.Search3
import Derived.Test.YtafoohdndlhbnaaGreatDoorFETD
import Derived.Test.YtafoohdndlhbnaaGreatDoorFEOL
import Derived.Test.YtafoohdndlhbnaaGreatDoorFEOR
import Derived.Test.YtafoohdndlhbnaaGreatDoorFEOO
section
namespace Go.Proofs.YtafoohdndlhbnaaGreatDoor
open Go.RowKit Go.Shelf
set_option maxRecDepth 100000

def layContains_ren : Go.Shelf.Ren := ⟨fun | 144 => 15 | 143 => 46 | 219 => 121 | 217 => 189 | 225 => 190 | 224 => 191 | 267 => 192 | 266 => 231 | 314 => 232 | n => n, fun | 9 => 9 | 4 => 4 | 3 => 3 | 5 => 5 | 46 => 166 | 146 => 257 | 51 => 65 | n => n, fun | 1 => 0 | n => n⟩
theorem layContains : Go.Proofs.Lays.n144 Tryz.prog layContains_ren := {
  mixed := by kernel_rfl,
  f143 := Tryz.func46.trans (congrArg some (by kernel_rfl)),
  f144 := Tryz.func15.trans (congrArg some (by kernel_rfl)),
  f217 := Tryz.func189.trans (congrArg some (by kernel_rfl)),
  f219 := Tryz.func121.trans (congrArg some (by kernel_rfl)),
  f224 := Tryz.func191.trans (congrArg some (by kernel_rfl)),
  f225 := Tryz.func190.trans (congrArg some (by kernel_rfl)),
  f266 := Tryz.func231.trans (congrArg some (by kernel_rfl)),
  f267 := Tryz.func192.trans (congrArg some (by kernel_rfl)),
  f314 := Tryz.func232.trans (congrArg some (by kernel_rfl)),
  t3 := Tryz.underlying3,
  a3 := Tryz.isAgg3,
  z3 := Tryz.sizeOf3,
  v3 := Tryz.zeroValue3,
  t4 := Tryz.underlying4,
  a4 := Tryz.isAgg4,
  z4 := Tryz.sizeOf4,
  v4 := Tryz.zeroValue4,
  t5 := Tryz.underlying5,
  a5 := Tryz.isAgg5,
  z5 := Tryz.sizeOf5,
  v5 := Tryz.zeroValue5,
  t9 := Tryz.underlying9,
  a9 := Tryz.isAgg9,
  z9 := Tryz.sizeOf9,
  v9 := Tryz.zeroValue9,
  t46 := Tryz.underlying166,
  a46 := Tryz.isAgg166,
  z46 := Tryz.sizeOf166,
  v46 := Tryz.zeroValue166,
  t51 := Tryz.underlying65,
  a51 := Tryz.isAgg65,
  z51 := Tryz.sizeOf65,
  v51 := Tryz.zeroValue65,
  t146 := Tryz.underlying257,
  a146 := Tryz.isAgg257,
  z146 := Tryz.sizeOf257,
  v146 := Tryz.zeroValue257,
  g1 := by kernel_rfl }

end Go.Proofs.YtafoohdndlhbnaaGreatDoor
end

section
namespace Go.Proofs.YtafoohdndlhbnaaGreatDoor
open Go.RowKit Go.Maps Bits Go.Shelf
attribute [local go_sem] Oper.semAt_some
set_option maxRecDepth 100000
set_option linter.unusedVariables false

theorem index_none : ∀ (l : List UInt8) (c : UInt8), c ∉ l → Lib.indexByte l c = -1
  | [], _, _ => rfl
  | b :: l, c, h => by
    have h1 : (b == c) = false := by
      have h2 : ¬ b = c := fun e => h (by simp [e])
      simpa using h2
    have h2 := index_none l c (fun hm => h (by simp [hm]))
    simp [Lib.indexByte, h1, h2]
theorem contains_nl {s : ByteArray} (h : NoNl s) (w : World) : Calls Tryz.prog 15 #[.string s, .string ⟨#[10]⟩] w fun e w' => e = .returned (.bool false) ∧ Below w.heap.size w w' := by
  have h1 := Any.strings_Contains_one layContains s 10 w
  rw [index_none _ _ h] at h1
  exact h1.mono (fun e w' hh => ⟨hh.1, hh.2 ▸ Below.refl _ _⟩)
/-- What Lines tells: an iterator over these lines. -/
structure LinesT (w w' : World) (L : List Ln) (gf : Nat) (lb : Array Value) (Kp : World → World → Prop) : Prop where
  nil : ∀ W, Sem.run Tryz.prog (binOp .eql 39 (.func (.func gf) #[] lb) .nilFunc) W = .ok (.bool false) W
  ent : ∀ args W, (callFunc gf args).run Tryz.prog W = .ok (.enter gf args) W
  seq : ∀ n, 1 ≤ n → SeqStopsK Fence.wide n Tryz.prog gf lb (fun x : Ln => #[Value.string x.1]) Kp (fun ys => ys = L) (fun pre => pre <+: L) L.length w'
  tr : ∀ A B C, Kp A B → Kp B C → Kp A C
  bk : ∀ (W : World) (l : Nat) (o o' : Obj), w'.heap.size ≤ l → W.heap[l]? = some o → o.isCells = false → o.isWalk = false → Kp W (W.putObj l o')
  st : ∀ (W : World) (c : Nat) (x v : Value), c < w.heap.size → 5 < c → Boxed W c 3 x → Kp W (W.setCell ⟨c, 0, none⟩ v)
theorem PW.lt {W : World} (h : PW W) : 5 < W.heap.size := by
  unfold PW Lib.TabIs World.var? at h
  rw [gPow] at h
  simp only [Option.bind_some] at h
  rcases Nat.lt_or_ge 5 W.heap.size with h' | h'
  · exact h'
  · rw [Array.getElem?_eq_none h'] at h; simp at h
theorem PW.other {W W' : World} (h : PW W) (hk : W'.heap[5]? = W.heap[5]?) : PW W' := by
  unfold PW Lib.TabIs World.var? at *
  rw [gPow] at h ⊢
  simp only [Option.bind_some] at h ⊢
  rw [hk]
  exact h
theorem kpI_bk {N : Nt} {q : NPl} {Bn m : Nat} (hq : ∀ k, q.has k → k < m) (hB : Bn < m) (hg : 5 < m) (W : World) (l : Nat) (o o' : Obj) (hl : m ≤ l) (ho : W.heap[l]? = some o) (h1 : o.isCells = false) : KpI N q Bn W (W.putObj l o') := fun h => by
  have hgr := grownBy_putObj' W l o'
  have hk : Kept (fun k => k = l) W (W.putObj l o') := ⟨hgr.os, hgr.tape, hgr.output, hgr.size, fun k hlt hn => hgr.block k hlt (by simpa using hn)⟩
  refine ⟨h.is.beside hk (fun k e hp => ?_) (fun k cur fz e hh => ?_), h.pw.other (hgr.block _ h.pw.lt (by simp; omega)), Nat.lt_of_lt_of_le h.lt hgr.size, cell_kept h.c hgr (fun r e => by cases e; exact ⟨o, ho, h1⟩)⟩
  · subst e
    have := hq k hp
    omega
  · subst e
    rw [ho] at hh
    cases hh
    cases h1
theorem kpI_st {N : Nt} {q : NPl} {Bn m : Nat} (hq : ∀ k, q.has k → m ≤ k) (hB : m ≤ Bn) (W : World) (c : Nat) (x v : Value) (hc : c < m) (hg : 5 < c) (hb : Boxed W c 3 x) : KpI N q Bn W (W.setCell ⟨c, 0, none⟩ v) := fun h => by
  have hk : Kept (fun k => k = c) W (W.setCell ⟨c, 0, none⟩ v) := ⟨rfl, rfl, rfl, by simp [World.setCell], fun k hlt hn => Below.heap_setCell _ _ _ _ hn⟩
  refine ⟨h.is.beside hk (fun k e hp => ?_) (fun k cur fz e hh => ?_), h.pw.other (Below.heap_setCell _ _ _ _ (by show _ ≠ c; omega)), by simpa [World.setCell] using h.lt, ?_⟩
  · subst e
    have := hq k hp
    omega
  · subst e
    rw [show W.heap[k]? = _ from hb] at hh
    cases hh
  · have h2 := Below.heap_setCell W ⟨c, 0, none⟩ v Bn (by show Bn ≠ c; omega)
    have h3 := h.c
    simp only [World.cell?, h2] at h3 ⊢
    exact h3
theorem linesF_nil (x : Nat) (W : World) : Sem.run Tryz.prog (binOp .eql 39 (.func (.func 111) #[] #[.pointer (some ⟨x, 0, none⟩)]) .nilFunc) W = .ok (.bool false) W := by kernel_rfl
theorem linesE_nil (W : World) : Sem.run Tryz.prog (binOp .eql 39 (.func (.func 45) #[] #[]) .nilFunc) W = .ok (.bool false) W := by kernel_rfl
theorem linesE_in (wL : World) (n : Nat) (hn : 1 ≤ n) :
    SeqStopsK Fence.wide n Tryz.prog 45 #[] (fun x : Ln => #[Value.string x.1]) (fun _ _ => True) (fun ys => ys = []) (fun pre => pre <+: ([] : List Ln)) 0 wL := fun l J Jx W hW hJ hJx hY h0 => by
  clear hY
  refine callsIn_of_wp Tryz.func45 rfl trivial ?_ rfl
  simp only [Tryz.ntmps45, List.size_toArray, List.length_cons, List.length_nil, Nat.reduceAdd, Nat.reduceSub, Array.replicate_succ, Array.replicate_zero, List.push_toArray, List.append_toArray, List.nil_append, List.cons_append]
  gi_wp2
  go_end0
  exact ⟨⟨_, rfl⟩, .inl ⟨[], rfl, h0⟩⟩
set_option maxHeartbeats 2000000 in
theorem Lines_tell {w0 w : World} {B C : Nat} {q : NPl} {N : Nt} {rest : List Int} (h : AtN w0 B C w q N) (hg : Good N rest) (hS : Small N) (ht : PW w) (L : List Ln) (hL : L.map (·.1) = lx N rest) :
    Calls Tryz.prog 14 #[.pointer (some ⟨B, 0, none⟩)] w fun e w' => ∃ gf lb Kp, e = .returned (.func (.func gf) #[] lb) ∧ LinesT w w' L gf lb Kp ∧ Below w.heap.size w w' := by
  have hck := Lib.hid (h.check hg hS rfl)
  unfold lx at hL
  by_cases hz : ckV rest = 0
  · rw [if_pos hz] at hL
    rw [hz] at hck
    have hcp := Lib.hid (fun W (hb : Below w.heap.size w W) => (h.step hb).copy hg hS)
    have hln := Lib.hid (fun p W => lines_any p W)
    have hok := Lib.hid (EmOk.of hg hS)
    have ht := Lib.hid ht
    have hL := Lib.hid hL
    clear h hg hS hz
    go_enter Tryz.func14, Tryz.ntmps14
    go_wp2_with (first
      | (go_at_call 17; (with_reducible refine hck.out.mono ?_); rintro e w2 ⟨rfl, hb2⟩; have hb2 := Lib.hid hb2; have hc2 := Lib.hid (hcp.out _ hb2.out))
      | (go_at_call 23; (with_reducible refine hc2.out.mono ?_); rintro e w3 ⟨q2, rfl, hI3, hb3, hq3⟩; have hB3 := Lib.hid (nextw hb2.out hb3))
      | (go_at_call 42; (with_reducible refine (hln.out _ _).mono ?_); rintro e w4 ⟨rfl, hw4⟩))
    go_ret
    subst hw4
    have hb4 : Below w3.heap.size w3 (w3.alloc (.cells #[.pointer (some ⟨q2.b, 0, none⟩)] 25)) := (Below.refl _ _).alloc (Nat.le_refl _) _
    have hBI : BI N q2 w3.heap.size (w3.alloc (.cells #[.pointer (some ⟨q2.b, 0, none⟩)] 25)) := ⟨hI3.below hb4, (ht.out.step hB3.out).step hb4, by simp, by simp [go_sem]⟩
    refine ⟨_, _, KpI N q2 w3.heap.size, rfl, ⟨fun W => linesF_nil _ W, enters_of Tryz.func111 (by kernel_rfl) rfl, fun n hn => lines2_in hok.out hBI L hL.out n hn, fun A B C h1 h2 h3 => h2 (h1 h3), ?_, ?_⟩, nextw hB3.out hb4⟩
    · intro W l o o' hl ho h1 _
      exact kpI_bk (m := w3.heap.size + 1) (fun k hk => Nat.lt_succ_of_lt (hI3.has_lt hk)) (Nat.lt_succ_self _) (Nat.lt_succ_of_lt (ht.out.step hB3.out).lt) W l o o' (by simpa using hl) ho h1
    · intro W c x v hc hgc hb
      have hs2 := hb2.out.size
      have hs3 := hB3.out.size
      exact kpI_st (m := w.heap.size) (fun k hk => Nat.le_trans hs2 (hq3 k hk)) hs3 W c x v hc hgc hb
  · rw [if_neg hz] at hL
    obtain rfl : L = [] := List.map_eq_nil_iff.1 hL
    generalize ckV rest = ck at *
    clear h hg hS
    go_enter Tryz.func14, Tryz.ntmps14
    go_wp2_with (go_at_call 17; (with_reducible refine hck.out.mono ?_); rintro e w2 ⟨rfl, hb2⟩)
    go_ret
    exact ⟨_, _, fun _ _ => True, rfl, ⟨linesE_nil, enters_of Tryz.func45 (by kernel_rfl) rfl, fun n hn => linesE_in _ n hn, fun _ _ _ _ _ => trivial, fun _ _ _ _ _ _ _ _ => trivial, fun _ _ _ _ _ _ _ => trivial⟩, hb2⟩
end Go.Proofs.YtafoohdndlhbnaaGreatDoor
end

section
namespace Go.Proofs.YtafoohdndlhbnaaGreatDoor
open Go.RowKit Go.Maps Bits Num
set_option maxRecDepth 100000

theorem AtN.asideD {w0 w w' : World} {B C : Nat} {q : NPl} {N : Nt} (h : AtN w0 B C w q N) (hk : Kept (DK w) w w') (hb : Below w0.heap.size w0 w') : AtN w0 B C w' q N := ⟨h.is.asideD hk, h.b, h.gb, h.out, hb⟩
theorem AtN.wants {w0 w : World} {B C : Nat} {q : NPl} {N : Nt} (h : AtN w0 B C w q N) {Bd Bg : Nat} {p : RPl} {M : Nt} (hR : RN w0 w Bd Bg p M) {rest : List Int} (hg : Good M rest) (hS : Small M) {s : StV} (hs : StOk w s) {N' : Nt} {ls : List Int} {r : Int} (hd : doesN M s = (N', ls, r)) :
    Calls Tryz.prog 41 #[.pointer (some ⟨Bd, 0, none⟩), .agg #[.int .i64 s.what, .string s.name, .int .i64 s.n, .int .u32 s.a, .int .u32 s.b, .int .u32 s.c, .slice s.la s.ln s.lc]] w fun e w' => (∃ v, e = .returned v) ∧ AtN w0 B C w' q N ∧ ∃ p', RN w0 w' Bd Bg p' N' := by
  have := Wants_all w0 w Bd Bg p M rest s hR hg hS hs trivial
  rw [hd] at this
  exact this.mono fun _ w' ⟨hv, ⟨p', hp⟩, hk⟩ => ⟨hv, h.asideD hk hp.below, p', hp⟩
theorem AtN.does2 {w0 w : World} {B C : Nat} {q : NPl} {N : Nt} (h : AtN w0 B C w q N) {Bd Bg : Nat} {p : RPl} {M : Nt} (hR : RN w0 w Bd Bg p M) {rest : List Int} (hg : Good N rest) (hS : Small N) {s : StV} (hs : StOk w s) {N' : Nt} {ls : List Int} {r : Int} (hd : doesN N s = (N', ls, r)) :
    Calls Tryz.prog 40 #[.pointer (some ⟨B, 0, none⟩), .agg #[.int .i64 s.what, .string s.name, .int .i64 s.n, .int .u32 s.a, .int .u32 s.b, .int .u32 s.c, .slice s.la s.ln s.lc]] w fun e w' => (∃ v1 v2, e = .returned (.tuple #[v1, v2])) ∧ (∃ q', AtN w0 B C w' q' N') ∧ RN w0 w' Bd Bg p M ∧ Below w0.heap.size w0 w' :=
  (h.does hg hS hs hd).mono fun _ w' ⟨a, c, q', he, hl, hA, hk, hn⟩ => ⟨⟨_, _, he⟩, ⟨q', hA⟩, hR.kept hk h.out h.is.noDoc, hA.below⟩

theorem doesN_goodR {N : Nt} (hg : ∃ rest, Good N rest) (hS : Small N) {w : World} {s : StV} (hs : StOk w s) : ∃ rest', Good (doesN N s).1 rest' := by
  obtain ⟨rest, hg⟩ := hg
  by_cases h8 : s.what = 8
  · unfold doesN
    rw [if_neg (by omega), if_neg (by omega), if_neg (by omega), if_neg (by omega), if_neg (by omega), if_neg (by omega), if_pos h8]
    exact ⟨_, hg.input⟩
  · exact ⟨rest, doesN_good hg hS hs h8⟩
set_option maxHeartbeats 4000000 in
theorem Built_any (F H : Bool) {w : World} {a : Option Addr} {n c : Nat} {S : Nat → StV} (hs : StRow w a n S) :
    Calls Tryz.prog 9 #[.agg #[.bool F, .bool H], .slice a n c] w fun e w' => ∃ (B C Bd Bg : Nat) (q : NPl) (p : RPl) (N : Nt), e = .returned (.tuple #[.pointer (some ⟨B, 0, none⟩), .pointer (some ⟨Bd, 0, none⟩)]) ∧ AtN w B C w' q N ∧ RN w w' Bd Bg p N ∧ (∃ rest, Good N rest) ∧ Upto N 60 := by
  have hb0 : Below w.heap.size w (w.alloc (.cells #[.bool F, .bool H] 23)) := (Below.refl _ _).alloc (Nat.le_refl _) _
  have hnew2 := Lib.hid (fun w2 (hb : Below w.heap.size w w2) => rNew_any w hb F H top_may)
  have k0 : (w.alloc (.cells #[.bool F, .bool H] 23)).cell? ⟨w.heap.size, 0, none⟩ = some (.bool F) := by simp [go_sem]
  have k1 : (w.alloc (.cells #[.bool F, .bool H] 23)).cell? ⟨w.heap.size, 1, none⟩ = some (.bool H) := by simp [go_sem]
  have HS := Lib.hid hs
  have hle := hs.le
  have hg0 : Hid (∃ rest, Good ⟨newG F H, sTop, [], [], []⟩ rest) := Lib.hid ⟨_, Good.new F H top_may⟩
  have hu0 := Lib.hid (upto0 F H)
  have hN2 := Lib.hid (New_ok F H top_may (w.alloc (.cells #[.bool F, .bool H] 23)))
  have hz0 : w.heap.size < (w.alloc (.cells #[.bool F, .bool H] 23)).heap.size := by simp
  have hb0 := Lib.hid hb0
  generalize hw1 : w.alloc (.cells #[.bool F, .bool H] 23) = w1 at *
  have hbz : w.heap.size ≤ w1.heap.size := hb0.out.size
  clear hs
  go_enter Tryz.func9, Tryz.ntmps9
  go_upto_block 0 with (first
    | (go_at_call 38; (with_reducible refine hN2.out.mono ?_); rintro e w2 ⟨q, rfl, hI, hb2, hqo⟩; have m0 := stepc hb2 hz0 k0; have m1 := stepc hb2 hz0 k1; have hnw := Lib.hid (hnew2.out _ (nextw hb0.out hb2)); have hA : AtN w q.b q.g.b w2 q ⟨newG F H, sTop, [], [], []⟩ := ⟨hI, rfl, rfl, fun k hk => Nat.le_trans hbz (hqo k hk), nextw hb0.out hb2⟩; have hA := Lib.hid hA; obtain ⟨b0, b1⟩ := hA.out.cells; clear hI hqo)
    | (go_at_call 39; (with_reducible refine hnw.out.mono ?_); rintro e w3 ⟨Bd, Bg, p, rfl, hRN, hb3⟩; have d0 := stepc hb3 b1 b0; have hA3 := Lib.hid (hA.out.step hb3); have hR3 := Lib.hid hRN; clear hRN hb3))
  generalize q.b = B at *
  generalize q.g.b = C at *
  clear hnew2 hN2 m0 m1 k0 k1 hnw hA d0 b0 b1 hb2
  go_wp2_with fail
  go_loopw [10] (fun i wr => ∃ (j : Nat) (q : NPl) (p : RPl) (N : Nt), j ≤ min n 60 ∧ i = .int .i64 j ∧ Hid (AtN w B C wr q N) ∧ Hid (RN w wr Bd Bg p N) ∧ Hid (∃ rest, Good N rest) ∧ Hid (Upto N j)) (fun i _ => min n 60 - (intOf i).toNat)
  case atStart => exact ⟨0, _, _, _, Nat.zero_le _, rfl, hA3, hR3, hg0, hu0⟩
  case round =>
    clear hA3 hR3 hg0 hu0
    obtain ⟨j, q, p, N, hj, rfl, hA, hR, hG, hU⟩ := hrel
    have hSm := Lib.hid (hU.out.small (by omega))
    by_cases hlt : j < min n 60
    · have hjn : j < n := by omega
      have hj60 : j < 60 := by omega
      obtain ⟨b, off, rfl, hb, k0, k1, k2, k3, k4, k5, k6⟩ := HS.out.at hjn
      have hcl := Lib.hid (fun w2 (hb2 : Below w.heap.size w w2) => And.intro (stepc hb2 hb k0) (And.intro (stepc hb2 hb k1) (And.intro (stepc hb2 hb k2) (And.intro (stepc hb2 hb k3) (And.intro (stepc hb2 hb k4) (And.intro (stepc hb2 hb k5) (stepc hb2 hb k6)))))))
      have k0 := stepc hA.out.below hb k0
      have k1 := stepc hA.out.below hb k1
      have k2 := stepc hA.out.below hb k2
      have k3 := stepc hA.out.below hb k3
      have k4 := stepc hA.out.below hb k4
      have k5 := stepc hA.out.below hb k5
      have k6 := stepc hA.out.below hb k6
      have hst := Lib.hid (HS.out.ok j hjn)
      have hbw := hb
      generalize S j = s at *
      obtain ⟨⟨N', ls, r⟩, hd⟩ : ∃ x, doesN N s = x := ⟨_, rfl⟩
      have hgd := Lib.hid (by have := doesN_goodR hG.out hSm.out hst.out; rw [hd] at this; exact this)
      have hup := Lib.hid (by have := hU.out.does (by omega) hG.out.choose_spec hst.out; rw [hd] at this; exact this)
      have hdo := Lib.hid (hA.out.does2 hR.out hG.out.choose_spec hSm.out (hst.out.step hA.out.below) hd)
      have hwa := Lib.hid (fun w2 q2 (hA2 : AtN w B C w2 q2 N') (hR2 : RN w w2 Bd Bg p N) => hA2.wants hR2 hG.out.choose_spec hSm.out (hst.out.step hA2.below) hd)
      clear hd hst hSm hG hU
      simp only [] at hgd hup
      generalize s.what = K at *
      generalize s.name = nm at *
      generalize s.n = sn at *
      generalize s.a = sa at *
      generalize s.b = sb at *
      generalize s.c = sc at *
      generalize s.la = la at *
      generalize s.ln = ln at *
      generalize s.lc = lc at *
      go_wp2_with (first
        | (go_at_call 40; (with_reducible refine hdo.out.mono ?_); rintro e w6 ⟨⟨v1, v2, rfl⟩, ⟨q6, hA6⟩, hR6, hb6⟩; obtain ⟨x0, x1, x2, x3, x4, x5, x6⟩ := hcl.out _ hb6; have hwa2 := Lib.hid (hwa.out _ _ hA6 hR6); clear hA6 hR6 hb6 hdo)
        | (go_at_call 41; (with_reducible refine hwa2.out.mono ?_); rintro e w7 ⟨⟨v3, rfl⟩, hA7, p7, hR7⟩; have hA7 := Lib.hid hA7; have hR7 := Lib.hid hR7))
      exact ⟨⟨j + 1, _, _, _, by omega, by go_num, hA7, hR7, hgd, hup⟩, by simp [intOf]; omega⟩
    · obtain rfl : j = min n 60 := by omega
      have hU6 := Lib.hid (hU.out.mono (show min n 60 ≤ 60 by omega))
      by_cases h6 : n ≤ 60
      · have hmn : min n 60 = n := by omega
        rw [hmn]
        go_wp2_with fail
        go_ret2
        exact ⟨_, _, _, _, _, _, _, rfl, hA.out, hR.out, hG.out, hU6.out⟩
      · have hmn : min n 60 = 60 := by omega
        have hn4 : 60 < n := by omega
        rw [hmn]
        go_wp2_with fail
        go_ret2
        exact ⟨_, _, _, _, _, _, _, rfl, hA.out, hR.out, hG.out, hU6.out⟩
end Go.Proofs.YtafoohdndlhbnaaGreatDoor
end

section
namespace Go.Proofs.YtafoohdndlhbnaaGreatDoor
open Go.RowKit Go.Maps Bits Go.Shelf
set_option maxRecDepth 100000
set_option linter.unusedVariables false

theorem str_ne {s t : ByteArray} (h : ¬ s = t) : (s.toList == t.toList) = false := by
  rw [ByteArray.toList_eq, ByteArray.toList_eq]
  cases e : (s.data.toList == t.data.toList) with
  | false => rfl
  | true =>
    have h1 : s.data.toList = t.data.toList := by simpa using e
    have h2 : s.data = t.data := by
      have := congrArg List.toArray h1
      simpa using this
    exact absurd (ByteArray.ext h2) h
def AllD (w : World) (S : ByteArray) (cd : Int) (e : Ending) (w' : World) : Prop := ∃ a cap, e = .returned (.tuple #[.slice a S.size cap, .int .i64 cd]) ∧ ConvQ w' (.slice a S.size cap) S ∧ Below w.heap.size w w'
/-- What is told in a world. -/
structure TP (B Bd : Nat) (S : ByteArray) (cd : Int) (L : List Ln) (W : World) : Prop where
  f1 : Calls Tryz.prog 10 #[.pointer (some ⟨B, 0, none⟩)] W (AllD W S cd)
  f2 : Calls Tryz.prog 11 #[.pointer (some ⟨Bd, 0, none⟩)] W (AllD W S cd)
  f3 : Calls Tryz.prog 12 #[.pointer (some ⟨B, 0, none⟩)] W fun e w' => e = .returned (.tuple #[.int .i64 S.size, .int .i64 cd]) ∧ Below W.heap.size W w'
  f4 : Calls Tryz.prog 13 #[.pointer (some ⟨Bd, 0, none⟩)] W fun e w' => ∃ v, e = .returned v ∧ w'.ownsRow W.heap.size 9 1 v L.length (strs (L.map (·.1))) ∧ Below W.heap.size W w'
  f5 : Calls Tryz.prog 14 #[.pointer (some ⟨B, 0, none⟩)] W fun e w' => ∃ gf lb Kp, e = .returned (.func (.func gf) #[] lb) ∧ LinesT W w' L gf lb Kp ∧ Below W.heap.size W w'
theorem lx_ln {N : Nt} {rest : List Int} (hg : Good N rest) (hS : Small N) : ∃ L : List Ln, L.map (·.1) = lx N rest ∧ L.length ≤ 1000000 ∧ ∀ x ∈ L, NoNl x.1 := by
  unfold lx
  by_cases hz : ckV rest = 0
  · rw [if_pos hz]
    obtain ⟨L, hL, hn⟩ := lines_ln (EmOk.of hg hS) hS
    exact ⟨L, hL, hn, fun x hx => lines_nl hg x.1 (by rw [← hL]; exact List.mem_map.2 ⟨x, hx, rfl⟩)⟩
  · rw [if_neg hz]
    exact ⟨[], rfl, by simp, fun x hx => by cases hx⟩
theorem tells_pack {wA w2 : World} {B C Bd Bg : Nat} {q : NPl} {p : RPl} {N : Nt} {rest : List Int} (hA : AtN wA B C w2 q N) (hR : RN wA w2 Bd Bg p N) (hG : Good N rest) (hU : Upto N 60) (ht : PW w2) :
    ∃ (S : ByteArray) (cd : Int) (L : List Ln), (L.length ≤ 1000000 ∧ ∀ x ∈ L, NoNl x.1) ∧ ∀ W, Below w2.heap.size w2 W → TP B Bd S cd L W := by
  have hS := hU.small (Nat.le_refl _)
  have hf := text_few hG hU
  have hp := textN_pos N
  obtain ⟨L, hL, hn, hnl⟩ := lx_ln hG hS
  have hcd : codeQ (ckV rest) (textN N) = ckV rest := by
    unfold codeQ
    by_cases h : ckV rest = 0
    · rw [if_pos h, if_pos hf, h]
    · rw [if_neg h]
  have hsz : ((if ckV rest = 0 then (textN N).length else 0 : Nat)) = (strQ (ckV rest) (textN N)).size := by
    unfold strQ
    by_cases hz : ckV rest = 0
    · rw [if_pos hz, if_pos ⟨hz, hf⟩]
      simp [ByteArray.size]
    · rw [if_neg hz, if_neg (fun h => hz h.1)]
      rfl
  refine ⟨strQ (ckV rest) (textN N), ckV rest, L, ⟨hn, hnl⟩, fun W hW => ⟨?_, ?_, ?_, ?_, ?_⟩⟩
  · have h1 := All_tell (hA.is.below hW) hG hS (ht.step hW)
    rw [hcd, hA.b] at h1
    exact h1
  · refine (rAll_any (hR.step hW) hG hS).mono ?_
    rintro e w' ⟨va, c, rfl, hQ, hB⟩
    obtain ⟨rfl, ⟨a, cap, rfl⟩, hc⟩ := hQ.tell hp
    rw [hcd]
    exact ⟨a, cap, rfl, hc, hB⟩
  · have h1 := Size_good (hA.is.below hW) hG hS (ht.step hW)
    rw [hsz, hA.b] at h1
    exact h1
  · have h1 := rLines_any (hR.step hW) hG hS
    rw [← hL, List.length_map] at h1
    exact h1
  · exact Lines_tell (hA.step hW) hG hS (ht.step hW) L hL
end Go.Proofs.YtafoohdndlhbnaaGreatDoor
end
