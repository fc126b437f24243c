/- Two disks apart from each other; Same over two slices of the same texts. Condition: the length has room. -/
import Derived.Test.YtllgjbkmemheoaaParts
namespace Go.Proofs.Ytllgjbkmemheoaa
open Go.RowKit Go.Maps
/-- Two disks, apart from each other and from X. -/
def Two (X : Nat → Prop) (w : World) (g1 : Nat) (d1 : DS) (g2 : Nat) (d2 : DS) : Prop := ∃ S2, Dk S2 w g2 d2 ∧ (∀ k, S2 k → ¬ X k) ∧ Dq (fun k => X k ∨ S2 k) w g1 d1
section
variable {X Y : Nat → Prop} {w w' : World} {g1 g2 : Nat} {d1 d2 d1' : DS}
theorem Two.one (h : Two X w g1 d1 g2 d2) : Dq X w g1 d1 := by
  obtain ⟨S2, _, _, h⟩ := h
  exact h.less fun _ hk => .inl hk
theorem Two.swap (h : Two X w g1 d1 g2 d2) : Two X w g2 d2 g1 d1 := by
  obtain ⟨S2, h2, hx2, S1, h1, hx1, hl⟩ := h
  exact ⟨S1, h1, fun k hk x => hx1 k hk (.inl x), S2, h2, fun k hk x => x.elim (hx2 k hk) fun y => hx1 k y (.inr hk), fun k hk => hk.elim (fun x => hl k (.inl x)) (h1.lt k)⟩
theorem Two.below (h : Two X w g1 d1 g2 d2) (hb : Below w.heap.size w w') : Two X w' g1 d1 g2 d2 := by
  obtain ⟨S2, h2, hx2, h1⟩ := h
  exact ⟨S2, h2.below hb, hx2, h1.below hb⟩
theorem Two.less (h : Two X w g1 d1 g2 d2) (hs : ∀ k, Y k → X k) : Two Y w g1 d1 g2 d2 := by
  obtain ⟨S2, h2, hx2, h1⟩ := h
  exact ⟨S2, h2, fun k hk y => hx2 k hk (hs k y), h1.less fun k hk => hk.imp (hs k) id⟩
theorem Two.more (h : Two X w g1 d1 g2 d2) (hb : Below w.heap.size w w') (hY : ∀ k, Y k → X k ∨ (w.heap.size ≤ k ∧ k < w'.heap.size)) : Two Y w' g1 d1 g2 d2 := by
  obtain ⟨S2, h2, hx2, h1⟩ := h
  refine ⟨S2, h2.below hb, fun k hk y => ?_, h1.more hb fun k hk => ?_⟩
  · rcases hY k y with z | z
    · exact hx2 k hk z
    · have := h2.lt k hk; omega
  · rcases hk with y | s
    · exact (hY k y).imp .inl id
    · exact .inl (.inr s)
theorem Two.turned (h : Two X w g1 d1 g2 d2) {row : Option Nat} (hg : w.grownBy w' row) (hr : ∀ k, row = some k → X k) : Two X w' g1 d1 g2 d2 := by
  obtain ⟨S2, h2, hx2, h1⟩ := h
  exact ⟨S2, h2.kept hg.size fun k hk => hg.block k (h2.lt k hk) fun e => hx2 k hk (hr k e.symm), hx2, h1.turned hg fun k e => .inl (hr k e)⟩
theorem Two.op {f : FuncId} {args : Array Value} {P : Ending → Prop} (h : Two X w g1 d1 g2 d2) (hc : ∀ Y, Dq Y w g1 d1 → (∀ k, X k → Y k) → Calls Try.prog f args w fun e w' => P e ∧ Dq Y w' g1 d1' ∧ Kx Y w w') :
    Calls Try.prog f args w fun e w' => P e ∧ Two X w' g1 d1' g2 d2 ∧ Kx X w w' := by
  obtain ⟨S2, h2, hx2, h1⟩ := h
  refine (hc _ h1 fun _ hk => .inl hk).mono fun e w' ⟨he, hq, hk⟩ => ⟨he, ⟨S2, h2.kept hk.size fun k hk2 => hk.same (.inr hk2) (h2.lt k hk2), hx2, hq⟩, hk.mono fun _ x => .inl x⟩
theorem new_two {d : DS} (q : Int) (h : Dq X w g2 d) (hq : 0 ≤ q ∧ q ≤ 1048576) :
    Calls Try.prog 10 #[.int .i64 q] w fun e w' => ∃ g, e = .returned (.tuple #[.pointer (some ⟨g, 0, none⟩), .int .i64 0]) ∧ Two X w' g2 d g (newS q) ∧ Below w.heap.size w w' :=
  (new_yes q w hq).mono fun e w' ⟨g, he, hd, hb⟩ => by
    obtain ⟨S, h1, hx, hl⟩ := h
    have hs : ∀ k, fresh w k → w.heap.size ≤ k := fun k hk => by unfold fresh at hk; omega
    refine ⟨g, he, ⟨fresh w, hd, fun k hk x => ?_, S, h1.below hb, fun k hk x => ?_, fun k hk => ?_⟩, hb⟩
    · have := hl k x; have := hs k hk; omega
    · rcases x with x | x
      · exact hx k hk x
      · have := h1.lt k hk; have := hs k x; omega
    · rcases hk with x | x
      · exact Nat.lt_of_lt_of_le (hl k x) hb.size
      · exact hd.lt k x
end
/-- What a law on two disks holds on to. -/
structure Lt (W : World) (X : Nat → Prop) (w : World) (g1 : Nat) (d1 : DS) (g2 : Nat) (d2 : DS) : Prop where
  low : Below W.heap.size W w
  two : Two X w g1 d1 g2 d2
  xs : ∀ k, k < W.heap.size → X k
section
variable {W w w' : World} {X Y : Nat → Prop} {g1 g2 : Nat} {d1 d2 d1' d2' : DS} {nm tn : ByteArray}
theorem Lt.below (h : Lt W X w g1 d1 g2 d2) (hb : Below w.heap.size w w') : Lt W X w' g1 d1 g2 d2 := ⟨kept_trans h.low hb, h.two.below hb, h.xs⟩
theorem Lt.swap (h : Lt W X w g1 d1 g2 d2) : Lt W X w g2 d2 g1 d1 := ⟨h.low, h.two.swap, h.xs⟩
theorem Lt.one (h : Lt W X w g1 d1 g2 d2) : Lw W X w g1 d1 := ⟨h.low, h.two.one, h.xs⟩
theorem Lt.op {f : FuncId} {args : Array Value} {P : Ending → Prop} (h : Lt W X w g1 d1 g2 d2) (hc : ∀ Y, Dq Y w g1 d1 → (∀ k, X k → Y k) → Calls Try.prog f args w fun e w' => P e ∧ Dq Y w' g1 d1' ∧ Kx Y w w') :
    Calls Try.prog f args w fun e w' => P e ∧ Lt W X w' g1 d1' g2 d2 ∧ Kx X w w' :=
  (h.two.op hc).mono fun _ _ ⟨he, ht, hk⟩ => ⟨he, ⟨h.low.trans (hk.below h.low.size h.xs), ht, h.xs⟩, hk⟩
theorem Lt.turned (h : Lt W X w g1 d1 g2 d2) {r : Nat} (hr : X r) (hW : W.heap.size ≤ r) (i : Nat) (u : Value) : Lt W X (w.setCell ⟨r, i, none⟩ u) g1 d1 g2 d2 :=
  ⟨h.low.setCell (p := ⟨r, i, none⟩) hW u, h.two.turned (grown_put (grown_refl w (some r)) i u) fun k e => by injection e with e; rw [← e]; exact hr, h.xs⟩
theorem Lt.app {A : Option Addr} {n c : Nat} {zs : List Int} (h : Lt W X w g1 d1 g2 d2) (ha : Arg X w A n c zs) (hs : nm.size ≤ 140737488351232) (hln : d1.l.length < 9000000000) :
    Calls Try.prog 11 #[.pointer (some ⟨g1, 0, none⟩), .string nm, .slice A n c] w fun e w' => e = .returned (.int .i64 (appE d1 nm zs)) ∧ Lt W X w' g1 (appS d1 nm zs) g2 d2 ∧ Kx X w w' :=
  h.op fun _ hq hs' => append_q hq hs ha.len ha.nil ha.lies (fun hn a e => hs' _ (ha.inx hn a e)) ha.oct hln
theorem Lt.syn (h : Lt W X w g1 d1 g2 d2) (hs : nm.size ≤ 140737488351232) :
    Calls Try.prog 12 #[.pointer (some ⟨g1, 0, none⟩), .string nm] w fun e w' => e = .returned (.int .i64 (synE d1 nm)) ∧ Lt W X w' g1 (synS d1 nm) g2 d2 ∧ Kx X w w' :=
  h.op fun _ hq _ => sync_q hq (by unfold maxLen; omega)
theorem Lt.ren (h : Lt W X w g1 d1 g2 d2) (hs : nm.size ≤ 140737488351232) (ht : tn.size ≤ 140737488351232) (hln : d1.l.length < 9000000000) :
    Calls Try.prog 21 #[.pointer (some ⟨g1, 0, none⟩), .string nm, .string tn] w fun e w' => e = .returned (.int .i64 (renE d1 nm tn)) ∧ Lt W X w' g1 (renS d1 nm tn) g2 d2 ∧ Kx X w w' :=
  h.op fun _ hq _ => rename_q hq (by unfold maxLen; omega) ht hln
theorem Lt.cra {A : Option Addr} {n c : Nat} {ps : List Int} (h : Lt W X w g1 d1 g2 d2) (h3 : IntsIn W A n c ps) (hn : n ≤ 30) (hl : d1.l.length ≤ 1000000) :
    Calls Try.prog 13 #[.pointer (some ⟨g1, 0, none⟩), .slice A n c] w fun e w' => e = .returned (.tuple #[]) ∧ Lt W X w' g1 (craS d1 ps) g2 d2 ∧ Kx X w w' :=
  h.op fun _ hq hs => crash_q hq hl (h3.lies.below h.low) h3.len (by omega) (fun hn a ha => hs _ (h.xs _ (by obtain ⟨b, off, e, hlt, _⟩ := h3.lies hn; rw [e] at ha; injection ha with ha; subst ha; exact hlt))) h3.ok
/-- A slice of bytes that a call made just now is kept apart. -/
theorem Lt.plus {A : Option Addr} {n c : Nat} {zs : List Int} (h : Lt W X w g1 d1 g2 d2) (ho : w'.ownsRow w.heap.size 5 1 (.slice A n c) n (cellsOf zs)) (hb : Below w.heap.size w w') : Lt W (Go.Proofs.Ytllgjbkmemheoaa.plus X A) w' g1 d1 g2 d2 :=
  ⟨kept_trans h.low hb, h.two.more hb fun k hk => by
    rcases hk with hk | ⟨a, ha, rfl⟩
    · exact .inl hk
    · exact .inr (ho.lt a.block (by rw [ha]; rfl)), fun k hk => .inl (h.xs k hk)⟩
theorem Lt.drop {A : Option Addr} (h : Lt W (Go.Proofs.Ytllgjbkmemheoaa.plus X A) w g1 d1 g2 d2) (hX : ∀ k, k < W.heap.size → X k) : Lt W X w g1 d1 g2 d2 := ⟨h.low, h.two.less fun _ hk => .inl hk, hX⟩
end
theorem strs_get {w : World} {A : Option Addr} {xs : List ByteArray} (h : Strs w A xs) {k : Nat} (hk : k < xs.length) : ∃ b off, A = some ⟨b, off, none⟩ ∧ b < w.heap.size ∧ w.cell? ⟨b, off + k, none⟩ = some (.string xs[k]) := h.at_ (List.getElem?_eq_getElem hk)
set_option maxHeartbeats 400000 in
theorem sameS_yes (A B : Option Addr) (n c d : Nat) (xs : List ByteArray) (w : World) (hn : xs.length = n) (hz : Strs w A xs) (hy : Strs w B xs) (ln : n ≤ 4611686018427387904) :
    Calls Try.prog 27 #[.slice A n c, .slice B n d] w fun e w' => e = .returned (.bool true) ∧ ∃ q, w' = w.drewN q := by
  subst hn
  go_enter Try.func27, Try.ntmps27
  go_wp2
  go_loopw [5] (fun i wr => ∃ k q : Nat, k ≤ xs.length ∧ i = .int .i64 k ∧ wr = w.drewN q) (fun i _ => xs.length - (intOf i).toNat)
  case atStart => exact ⟨0, 0, by omega, rfl, rfl⟩
  case round =>
    obtain ⟨k, q, hk, rfl, rfl⟩ := hrel
    by_cases hlt : k < xs.length
    · obtain ⟨b1, o1, rfl, _, hc1⟩ := strs_get hz hlt
      obtain ⟨b2, o2, rfl, _, hc2⟩ := strs_get hy hlt
      have Hz := hide hz; have Hy := hide hy; clear hz hy
      generalize xs[k] = x at *
      go_wp2
      go_quiet (fail)
      go_wp2
      go_roundw
      case rel => exact ⟨k + 1, _, by omega, by go_num, rfl⟩
      case measure => simp [intOf]; omega
    · go_wp2
      go_ret
      exact ⟨rfl, _, rfl⟩
end Go.Proofs.Ytllgjbkmemheoaa
