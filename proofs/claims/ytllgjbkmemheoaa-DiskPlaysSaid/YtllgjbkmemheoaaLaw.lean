/- The disk's calls, said for callers: what is left alone stays. Conditions as the calls' own. -/
import Derived.Test.YtllgjbkmemheoaaCrash
import Derived.Test.YtllgjbkmemheoaaCut
import Derived.Test.YtllgjbkmemheoaaRen
namespace Go.Proofs.Ytllgjbkmemheoaa
open Go.RowKit Go.Maps
/-- At block g there is the disk d, none of whose blocks is in X. -/
def Dq (X : Nat → Prop) (w : World) (g : Nat) (d : DS) : Prop := ∃ S, Dk S w g d ∧ (∀ k, S k → ¬ X k) ∧ ∀ k, X k → k < w.heap.size
/-- All that is in X stays. -/
def Kx (X : Nat → Prop) (w w' : World) : Prop := Turn (fun k => ¬ X k) w w'
section
variable {X Y : Nat → Prop} {w w' w2 : World} {g : Nat} {d : DS}
theorem Kx.refl (X : Nat → Prop) (w : World) : Kx X w w := Turn.refl _ _
theorem Kx.trans (h : Kx X w w') (k : Kx X w' w2) : Kx X w w2 := Turn.trans h k fun _ hk => .inl hk
theorem Kx.of_below (h : Below w.heap.size w w') : Kx X w w' := Turn.of_below h
theorem Kx.mono (h : Kx X w w') (hs : ∀ k, Y k → X k) : Kx Y w w' := Turn.mono h fun k hk x => hk (hs k x)
theorem Kx.below (h : Kx X w w') {B : Nat} (hB : B ≤ w.heap.size) (hs : ∀ k, k < B → X k) : Below B w w' := ⟨h.os, h.tape, h.output, h.size, fun k hk => h.block k (by omega) fun hn => hn (hs k hk)⟩
theorem Kx.same (h : Kx X w w') {k : Nat} (hk : X k) (hl : k < w.heap.size) : w'.heap[k]? = w.heap[k]? := h.block k hl fun hn => hn hk
theorem Dq.ok (h : Dq X w g d) : DOk d := by obtain ⟨S, h, _⟩ := h; exact h.ok
theorem Dq.below (h : Dq X w g d) (hb : Below w.heap.size w w') : Dq X w' g d := by
  obtain ⟨S, h, h1, h2⟩ := h
  exact ⟨S, h.below hb, h1, fun k hk => Nat.lt_of_lt_of_le (h2 k hk) hb.size⟩
theorem Dq.less (h : Dq X w g d) (hs : ∀ k, Y k → X k) : Dq Y w g d := by
  obtain ⟨S, h, h1, h2⟩ := h
  exact ⟨S, h, fun k hk y => h1 k hk (hs k y), fun k hk => h2 k (hs k hk)⟩
/-- New blocks are apart from it. -/
theorem Dq.more (h : Dq X w g d) (hb : Below w.heap.size w w') (hY : ∀ k, Y k → X k ∨ (w.heap.size ≤ k ∧ k < w'.heap.size)) : Dq Y w' g d := by
  obtain ⟨S, h, h1, h2⟩ := h
  refine ⟨S, h.below hb, fun k hk y => ?_, fun k hk => ?_⟩
  · rcases hY k y with z | z
    · exact h1 k hk z
    · have := h.lt k hk; omega
  · rcases hY k hk with z | z
    · exact Nat.lt_of_lt_of_le (h2 k z) hb.size
    · exact z.2
/-- Blocks of X may turn. -/
theorem Dq.turned (h : Dq X w g d) {row : Option Nat} (hg : w.grownBy w' row) (hr : ∀ k, row = some k → X k) : Dq X w' g d := by
  obtain ⟨S, h, h1, h2⟩ := h
  exact ⟨S, h.kept hg.size fun k hk => hg.block k (h.lt k hk) fun e => h1 k hk (hr k e.symm), h1, fun k hk => Nat.lt_of_lt_of_le (h2 k hk) hg.size⟩
theorem Dq.of_own {S S' : Nat → Prop} (hd : Dk S' w' g d) (ho : Own S w S' w') (h1 : ∀ k, S k → ¬ X k) (h2 : ∀ k, X k → k < w.heap.size) : Dq X w' g d ∧ Kx X w w' := by
  refine ⟨⟨S', hd, fun k hk x => ?_, fun k hk => Nat.lt_of_lt_of_le (h2 k hk) ho.turn.size⟩, ho.turn.mono h1⟩
  rcases ho.new k hk with z | z
  · exact h1 k z x
  · have := h2 k x; omega
theorem calls_q {f : FuncId} {args : Array Value} {x : Int} {d' : DS} (h : Dq X w g d) (hc : ∀ S, Dk S w g d → (∀ k, S k → ¬ X k) → Calls Try.prog f args w (Chg S w g x d')) :
    Calls Try.prog f args w fun e w' => e = .returned (.int .i64 x) ∧ Dq X w' g d' ∧ Kx X w w' := by
  obtain ⟨S, h, h1, h2⟩ := h
  exact (hc S h h1).mono fun e w' ⟨he, S', hd, ho⟩ => ⟨he, Dq.of_own hd ho h1 h2⟩
/-- Where it lies is in X. -/
def InX (X : Nat → Prop) (A : Option Addr) (zs : List Int) : Prop := 0 < zs.length → ∀ a, A = some a → X a.block
theorem InX.out {A : Option Addr} {zs : List Int} (h : InX X A zs) {S : Nat → Prop} (hs : ∀ k, S k → ¬ X k) : Out S A zs := fun hn a ha hk => hs _ hk (h hn a ha)
theorem Lies.kx {A : Option Addr} {zs : List Int} (h : Lies w A zs) (hk : Kx X w w') (hx : InX X A zs) : Lies w' A zs := h.turn hk fun hn a ha hk => hk (hx hn a ha)
theorem LiesI.kx {A : Option Addr} {zs : List Int} (h : LiesI w A zs) (hk : Kx X w w') (hx : InX X A zs) : LiesI w' A zs := h.turn hk fun hn a ha hk => hk (hx hn a ha)
theorem InX.nil (X : Nat → Prop) (A : Option Addr) : InX X A [] := fun h => absurd h (by simp)
theorem append_q {nm : ByteArray} {A : Option Addr} {n c : Nat} {zs : List Int} (h : Dq X w g d) (hs : nm.size ≤ 140737488351232) (hm : zs.length = n) (hc : A = none → c = 0) (hl : Lies w A zs) (hx : InX X A zs) (hz : Octets zs) (hln : d.l.length < 9000000000) :
    Calls Try.prog 11 #[.pointer (some ⟨g, 0, none⟩), .string nm, .slice A n c] w fun e w' => e = .returned (.int .i64 (appE d nm zs)) ∧ Dq X w' g (appS d nm zs) ∧ Kx X w w' :=
  calls_q h fun _ hd hS => append_any g nm A n c zs d w hd hs hm hc hl (hx.out hS) hz hln
/-- Append of a slice that was made just now. -/
theorem append_new {nm : ByteArray} {w1 : World} {A : Option Addr} {n c : Nat} {zs : List Int} (h : Dq X w g d) (hb : Below w.heap.size w w1) (hs : nm.size ≤ 140737488351232) (hm : zs.length = n) (hc : A = none → c = 0) (hl : Lies w1 A zs) (hA : 0 < zs.length → ∀ a, A = some a → w.heap.size ≤ a.block) (hz : Octets zs) (hln : d.l.length < 9000000000) :
    Calls Try.prog 11 #[.pointer (some ⟨g, 0, none⟩), .string nm, .slice A n c] w1 fun e w' => e = .returned (.int .i64 (appE d nm zs)) ∧ Dq X w' g (appS d nm zs) ∧ Kx X w w' := by
  have h1 : Dq (fun k => X k ∨ (0 < zs.length ∧ ∃ a, A = some a ∧ k = a.block)) w1 g d := h.more hb fun k hk => by
    rcases hk with hk | ⟨hn, a, ha, rfl⟩
    · exact .inl hk
    · refine .inr ⟨hA hn a ha, ?_⟩
      obtain ⟨b, off, e, hlt, _⟩ := hl hn
      rw [e] at ha; injection ha with ha; subst ha; exact hlt
  refine (append_q h1 hs hm hc hl (fun hn a ha => .inr ⟨hn, a, ha, rfl⟩) hz hln).mono fun e w' ⟨h1, h2, h3⟩ => ⟨h1, h2.less fun k hk => .inl hk, (Kx.of_below hb).trans (h3.mono fun k hk => .inl hk)⟩
theorem sync_q {nm : ByteArray} (h : Dq X w g d) (hs : nm.size ≤ maxLen) :
    Calls Try.prog 12 #[.pointer (some ⟨g, 0, none⟩), .string nm] w fun e w' => e = .returned (.int .i64 (synE d nm)) ∧ Dq X w' g (synS d nm) ∧ Kx X w w' :=
  calls_q h fun _ hd _ => sync_any hd hs
theorem cut_q {nm : ByteArray} {n : Int} (h : Dq X w g d) (hs : nm.size ≤ maxLen) (hn : -9223372036854775808 ≤ n ∧ n ≤ 9223372036854775807) :
    Calls Try.prog 35 #[.pointer (some ⟨g, 0, none⟩), .string nm, .int .i64 n] w fun e w' => e = .returned (.int .i64 (cutE d nm n)) ∧ Dq X w' g (cutS d nm n) ∧ Kx X w w' :=
  calls_q h fun _ hd _ => cut_any hd hs n hn
theorem rename_q {nm tn : ByteArray} (h : Dq X w g d) (hs : nm.size ≤ maxLen) (ht : tn.size ≤ 140737488351232) (hln : d.l.length < 9000000000) :
    Calls Try.prog 21 #[.pointer (some ⟨g, 0, none⟩), .string nm, .string tn] w fun e w' => e = .returned (.int .i64 (renE d nm tn)) ∧ Dq X w' g (renS d nm tn) ∧ Kx X w w' :=
  calls_q h fun _ hd _ => rename_any hd hs ht hln
theorem remove_q {nm : ByteArray} (h : Dq X w g d) (hs : nm.size ≤ maxLen) :
    Calls Try.prog 22 #[.pointer (some ⟨g, 0, none⟩), .string nm] w fun e w' => e = .returned (.int .i64 (remE d nm)) ∧ Dq X w' g (remS d nm) ∧ Kx X w w' :=
  calls_q h fun _ hd _ => remove_any hd hs
theorem arm_q {n : Int} (h : Dq X w g d) (hn : -9223372036854775808 ≤ n ∧ n ≤ 9223372036854775807) :
    Calls Try.prog 15 #[.pointer (some ⟨g, 0, none⟩), .int .i64 n] w fun e w' => e = .returned (.tuple #[]) ∧ Dq X w' g (armS d n) ∧ Kx X w w' := by
  obtain ⟨S, hd, h1, h2⟩ := h
  exact (arm_any g n d w hd hn).mono fun e w' ⟨he, hd', hg⟩ => ⟨he, Dq.of_own hd' ⟨Turn.of_grown hg (fun k e => by injection e with e; rw [← e]; obtain ⟨_, _, _, p⟩ := hd; exact p.sg), fun k hk => .inl hk⟩ h1 h2⟩
theorem crash_q {A : Option Addr} {n c : Nat} {ps : List Int} (h : Dq X w g d) (hln : d.l.length ≤ 1000000) (hp : LiesI w A ps) (hpn : ps.length = n) (hpx : n ≤ 4611686018427387904) (hx : InX X A ps) (hpb : ∀ p, p ∈ ps → -9223372036854775808 ≤ p ∧ p ≤ 9223372036854775807) :
    Calls Try.prog 13 #[.pointer (some ⟨g, 0, none⟩), .slice A n c] w fun e w' => e = .returned (.tuple #[]) ∧ Dq X w' g (craS d ps) ∧ Kx X w w' := by
  obtain ⟨S, hd, h1, h2⟩ := h
  exact (crash_any n c hd hln hp hpn hpx (hx.out h1) hpb).mono fun e w' ⟨he, S', hd', ho⟩ => ⟨he, Dq.of_own hd' ho h1 h2⟩
theorem crash_new {w1 : World} {A : Option Addr} {n c : Nat} {ps : List Int} (h : Dq X w g d) (hb : Below w.heap.size w w1) (hln : d.l.length ≤ 1000000) (hp : LiesI w1 A ps) (hpn : ps.length = n) (hpx : n ≤ 4611686018427387904) (hA : 0 < ps.length → ∀ a, A = some a → w.heap.size ≤ a.block) (hpb : ∀ p, p ∈ ps → -9223372036854775808 ≤ p ∧ p ≤ 9223372036854775807) :
    Calls Try.prog 13 #[.pointer (some ⟨g, 0, none⟩), .slice A n c] w1 fun e w' => e = .returned (.tuple #[]) ∧ Dq X w' g (craS d ps) ∧ Kx X w w' := by
  have h1 : Dq (fun k => X k ∨ (0 < ps.length ∧ ∃ a, A = some a ∧ k = a.block)) w1 g d := h.more hb fun k hk => by
    rcases hk with hk | ⟨hn, a, ha, rfl⟩
    · exact .inl hk
    · refine .inr ⟨hA hn a ha, ?_⟩
      obtain ⟨b, off, e, hlt, _⟩ := hp hn
      rw [e] at ha; injection ha with ha; subst ha; exact hlt
  refine (crash_q h1 hln hp hpn hpx (fun hn a ha => .inr ⟨hn, a, ha, rfl⟩) hpb).mono fun e w' ⟨h1, h2, h3⟩ => ⟨h1, h2.less fun k hk => .inl hk, (Kx.of_below hb).trans (h3.mono fun k hk => .inl hk)⟩
theorem read_q {nm : ByteArray} (h : Dq X w g d) (hs : nm.size ≤ maxLen) : Calls Try.prog 14 #[.pointer (some ⟨g, 0, none⟩), .string nm] w (ReadP w (find nm d.l)) := by
  obtain ⟨S, hd, _⟩ := h
  exact read_any g nm d w hd hs
theorem off_q (h : Dq X w g d) : Calls Try.prog 17 #[.pointer (some ⟨g, 0, none⟩)] w fun e w' => e = .returned (.bool d.off) ∧ w = w' := by
  obtain ⟨S, hd, _⟩ := h
  exact off_any g d w hd
theorem total_q (h : Dq X w g d) : Calls Try.prog 24 #[.pointer (some ⟨g, 0, none⟩)] w fun e w' => e = .returned (.int .i64 (total d.l)) ∧ Below w.heap.size w w' := by
  obtain ⟨S, hd, _⟩ := h
  exact total_any g d w hd
theorem room_q (h : Dq X w g d) : Calls Try.prog 25 #[.pointer (some ⟨g, 0, none⟩)] w fun e w' => e = .returned (.int .i64 (d.q - total d.l)) ∧ Below w.heap.size w w' := by
  obtain ⟨S, hd, _⟩ := h
  exact room_any g d w hd
theorem names_q (h : Dq X w g d) (hln : d.l.length ≤ 1000000) : Calls Try.prog 26 #[.pointer (some ⟨g, 0, none⟩)] w (NamesP w d.l) := by
  obtain ⟨S, hd, _⟩ := h
  exact names_any g d w hd hln
/-- New answers a disk that is apart from all that was. -/
theorem new_q (q : Int) (w : World) (hq : 0 ≤ q ∧ q ≤ 1048576) :
    Calls Try.prog 10 #[.int .i64 q] w fun e w' => ∃ g, e = .returned (.tuple #[.pointer (some ⟨g, 0, none⟩), .int .i64 0]) ∧ Dq (fun k => k < w.heap.size) w' g (newS q) ∧ Below w.heap.size w w' :=
  (new_yes q w hq).mono fun e w' ⟨g, he, hd, hb⟩ => ⟨g, he, ⟨fresh w, hd, fun k hk => by unfold fresh at hk; omega, fun k hk => Nat.lt_of_lt_of_le hk hb.size⟩, hb⟩
end
/-- What a law holds on to: the disk, and that nothing of before has turned. -/
structure Lw (W : World) (X : Nat → Prop) (w : World) (g : Nat) (d : DS) : Prop where
  low : Below W.heap.size W w
  q : Dq X w g d
  xs : ∀ k, k < W.heap.size → X k
section
variable {W w w' : World} {X Y : Nat → Prop} {g : Nat} {d d' : DS}
theorem Lw.step (h : Lw W X w g d) (hq : Dq X w' g d') (hk : Kx X w w') : Lw W X w' g d' := ⟨h.low.trans (hk.below h.low.size h.xs), hq, h.xs⟩
theorem Lw.below (h : Lw W X w g d) (hb : Below w.heap.size w w') : Lw W X w' g d := ⟨kept_trans h.low hb, h.q.below hb, h.xs⟩
theorem Lw.start (hd : Dq (fun k => k < W.heap.size) w g d) (hb : Below W.heap.size W w) : Lw W (fun k => k < W.heap.size) w g d := ⟨hb, hd, fun _ h => h⟩
/-- .. and the block at A. -/
def plus (X : Nat → Prop) (A : Option Addr) : Nat → Prop := fun k => X k ∨ ∃ a, A = some a ∧ k = a.block
theorem inX_plus (X : Nat → Prop) (A : Option Addr) (zs : List Int) : InX (plus X A) A zs := fun _ a ha => .inr ⟨a, ha, rfl⟩
/-- Behind a call that hands a new slice of bytes over. -/
theorem Lw.plus {A : Option Addr} {n c : Nat} {zs : List Int} (h : Lw W X w g d) (ho : w'.ownsRow w.heap.size 5 1 (.slice A n c) n (cellsOf zs)) (hb : Below w.heap.size w w') : Lw W (Go.Proofs.Ytllgjbkmemheoaa.plus X A) w' g d :=
  ⟨kept_trans h.low hb, h.q.more hb fun k hk => by
    rcases hk with hk | ⟨a, ha, rfl⟩
    · exact .inl hk
    · exact .inr (ho.lt a.block (by rw [ha]; rfl)), fun k hk => .inl (h.xs k hk)⟩
/-- The disk, and a slice of bytes apart from it. -/
structure Lr (W : World) (X : Nat → Prop) (A : Option Addr) (zs : List Int) (w : World) (g : Nat) (d : DS) : Prop where
  l : Lw W (Go.Proofs.Ytllgjbkmemheoaa.plus X A) w g d
  lies : Lies w A zs
theorem Lr.step {A : Option Addr} {zs : List Int} (h : Lr W X A zs w g d) (hq : Dq (Go.Proofs.Ytllgjbkmemheoaa.plus X A) w' g d') (hk : Kx (Go.Proofs.Ytllgjbkmemheoaa.plus X A) w w') : Lr W X A zs w' g d' := ⟨h.l.step hq hk, h.lies.kx hk (inX_plus X A zs)⟩
theorem Lr.below {A : Option Addr} {zs : List Int} (h : Lr W X A zs w g d) (hb : Below w.heap.size w w') : Lr W X A zs w' g d := ⟨h.l.below hb, h.lies.below hb⟩
theorem Lw.read {A : Option Addr} {n c : Nat} {zs : List Int} (h : Lw W X w g d) (ho : w'.ownsRow w.heap.size 5 1 (.slice A n c) n (cellsOf zs)) (hb : Below w.heap.size w w') : Lr W X A zs w' g d := ⟨h.plus ho hb, Lies.of_own ho⟩
end
end Go.Proofs.Ytllgjbkmemheoaa
