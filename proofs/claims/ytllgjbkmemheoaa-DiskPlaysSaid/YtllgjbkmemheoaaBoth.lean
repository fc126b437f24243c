/- The program's disk and the document's, told the same. Conditions as the calls' own. -/
import Derived.Test.YtllgjbkmemheoaaRefcut
import Derived.Test.YtllgjbkmemheoaaRefcra
import Derived.Test.YtllgjbkmemheoaaRefnam
import Derived.Test.YtllgjbkmemheoaaTwin
namespace Go.Proofs.Ytllgjbkmemheoaa
open Go.RowKit Go.Maps
/-- The program's disk d1 at p, the document's d2 at r, apart from each other and from X. -/
def Bo (X : Nat → Prop) (w : World) (p : Nat) (d1 : DS) (r : Nat) (d2 : DS) : Prop := ∃ T, Rk T w r d2 ∧ (∀ k, T k → ¬ X k) ∧ Dq (fun k => X k ∨ T k) w p d1
section
variable {X Y : Nat → Prop} {w w' : World} {p r : Nat} {d1 d2 d1' d2' : DS}
theorem Bo.one (h : Bo X w p d1 r d2) : Dq X w p d1 := by
  obtain ⟨T, _, _, h⟩ := h
  exact h.less fun _ hk => .inl hk
theorem Bo.below (h : Bo X w p d1 r d2) (hb : Below w.heap.size w w') : Bo X w' p d1 r d2 := by
  obtain ⟨T, h2, hx, h1⟩ := h
  exact ⟨T, h2.below hb, hx, h1.below hb⟩
theorem Bo.less (h : Bo X w p d1 r d2) (hs : ∀ k, Y k → X k) : Bo Y w p d1 r d2 := by
  obtain ⟨T, h2, hx, h1⟩ := h
  exact ⟨T, h2, fun k hk y => hx k hk (hs k y), h1.less fun k hk => hk.imp (hs k) id⟩
theorem Bo.more (h : Bo X w p d1 r d2) (hb : Below w.heap.size w w') (hY : ∀ k, Y k → X k ∨ (w.heap.size ≤ k ∧ k < w'.heap.size)) : Bo Y w' p d1 r d2 := by
  obtain ⟨T, h2, hx, h1⟩ := h
  refine ⟨T, h2.below hb, fun k hk y => ?_, h1.more hb fun k hk => ?_⟩
  · rcases hY k y with z | z
    · exact hx k hk z
    · have := h2.lt k hk; omega
  · rcases hk with y | s
    · exact (hY k y).imp .inl id
    · exact .inl (.inr s)
theorem Bo.opP {f : FuncId} {args : Array Value} {P : Ending → Prop} (h : Bo X w p d1 r d2) (hc : ∀ Y, Dq Y w p d1 → (∀ k, X k → Y k) → Calls Try.prog f args w fun e w' => P e ∧ Dq Y w' p d1' ∧ Kx Y w w') :
    Calls Try.prog f args w fun e w' => P e ∧ Bo X w' p d1' r d2 ∧ Kx X w w' := by
  obtain ⟨T, h2, hx, h1⟩ := h
  refine (hc _ h1 fun _ hk => .inl hk).mono fun e w' ⟨he, hq, hk⟩ => ⟨he, ⟨T, h2.kept hk.size fun k hk2 => hk.same (.inr hk2) (h2.lt k hk2), hx, hq⟩, hk.mono fun _ x => .inl x⟩
theorem Bo.opR {f : FuncId} {args : Array Value} {P : Ending → Prop} (h : Bo X w p d1 r d2) (hc : ∀ T, Rk T w r d2 → (∀ k, T k → ¬ X k) → Calls Try.prog f args w fun e w' => P e ∧ ∃ T', Rk T' w' r d2' ∧ Own T w T' w') :
    Calls Try.prog f args w fun e w' => P e ∧ Bo X w' p d1 r d2' ∧ Kx X w w' := by
  obtain ⟨T, h2, hx, S, h1, hsx, hl⟩ := h
  refine (hc _ h2 hx).mono fun e w' ⟨he, T', h3, ho⟩ => ⟨he, ⟨T', h3, fun k hk x => ?_, S, h1.kept ho.turn.size (fun k hk => ho.turn.block k (h1.lt k hk) fun z => hsx k hk (.inr z)), fun k hk y => ?_, fun k hk => ?_⟩, ho.turn.mono hx⟩
  · rcases ho.new k hk with z | z
    · exact hx k z x
    · have := hl k (.inl x); omega
  · rcases y with x | t
    · exact hsx k hk (.inl x)
    · rcases ho.new k t with z | z
      · exact hsx k hk (.inr z)
      · have := h1.lt k hk; omega
  · rcases hk with x | t
    · exact Nat.lt_of_lt_of_le (hl k (.inl x)) ho.turn.size
    · exact h3.lt k t
end
/-- What the law holds on to. -/
structure Lb (W : World) (X : Nat → Prop) (w : World) (p : Nat) (d1 : DS) (r : Nat) (d2 : DS) : Prop where
  low : Below W.heap.size W w
  bo : Bo X w p d1 r d2
  xs : ∀ k, k < W.heap.size → X k
section
variable {W w w' : World} {X Y : Nat → Prop} {p r : Nat} {d1 d2 d1' d2' d : DS} {nm tn : ByteArray}
theorem Lb.below (h : Lb W X w p d1 r d2) (hb : Below w.heap.size w w') : Lb W X w' p d1 r d2 := ⟨kept_trans h.low hb, h.bo.below hb, h.xs⟩
theorem Lb.one (h : Lb W X w p d1 r d2) : Lw W X w p d1 := ⟨h.low, h.bo.one, h.xs⟩
theorem Lb.drop (h : Lb W X w p d1 r d2) (hY : ∀ k, Y k → X k) (hW : ∀ k, k < W.heap.size → Y k) : Lb W Y w p d1 r d2 := ⟨h.low, h.bo.less hY, hW⟩
theorem Lb.opP {f : FuncId} {args : Array Value} {P : Ending → Prop} (h : Lb W X w p d1 r d2) (hc : ∀ Y, Dq Y w p d1 → (∀ k, X k → Y k) → Calls Try.prog f args w fun e w' => P e ∧ Dq Y w' p d1' ∧ Kx Y w w') :
    Calls Try.prog f args w fun e w' => P e ∧ Lb W X w' p d1' r d2 ∧ Kx X w w' :=
  (h.bo.opP hc).mono fun _ _ ⟨he, ht, hk⟩ => ⟨he, ⟨h.low.trans (hk.below h.low.size h.xs), ht, h.xs⟩, hk⟩
theorem Lb.opR {f : FuncId} {args : Array Value} {P : Ending → Prop} (h : Lb W X w p d1 r d2) (hc : ∀ T, Rk T w r d2 → (∀ k, T k → ¬ X k) → Calls Try.prog f args w fun e w' => P e ∧ ∃ T', Rk T' w' r d2' ∧ Own T w T' w') :
    Calls Try.prog f args w fun e w' => P e ∧ Lb W X w' p d1 r d2' ∧ Kx X w w' :=
  (h.bo.opR hc).mono fun _ _ ⟨he, ht, hk⟩ => ⟨he, ⟨h.low.trans (hk.below h.low.size h.xs), ht, h.xs⟩, hk⟩
/-- What the document's disk tells. -/
theorem Lb.ref (h : Lb W X w p d1 r d2) : ∃ T R A c, DOk d2 ∧ Rp T w r R A c d2 := by
  obtain ⟨T, ⟨ho, R, A, c, hR⟩, _⟩ := h.bo
  exact ⟨T, R, A, c, ho, hR⟩
end
/-- .. and the call, in a block of its own. -/
structure Cb (W w : World) (p : Nat) (d1 : DS) (r : Nat) (d2 : DS) (gb : Nat) (x : As) : Prop where
  l : Lb W (Xb W gb) w p d1 r d2
  box : Row w gb 41 (askRow x)
section
variable {W w w' : World} {p r gb : Nat} {d1 d2 d1' d2' : DS} {x : As} {nm tn : ByteArray}
theorem Cb.drew (h : Cb W w p d1 r d2 gb x) : Cb W w.drew p d1 r d2 gb x := ⟨h.l.below (kept_drewN (kept_refl w) 1), h.box⟩
theorem Cb.step (h : Cb W w p d1 r d2 gb x) (hl : Lb W (Xb W gb) w' p d1' r d2') (hk : Kx (Xb W gb) w w') : Cb W w' p d1' r d2' gb x :=
  ⟨hl, (hk.same (.inr ⟨_, rfl, rfl⟩) h.box.lt).trans h.box⟩
theorem Cb.c1 (h : Cb W w p d1 r d2 gb x) : w.cell? ⟨gb, 1, none⟩ = some (.int .i64 x.n) := h.box.cell 1
theorem Cb.c2 (h : Cb W w p d1 r d2 gb x) : w.cell? ⟨gb, 2, none⟩ = some (.string x.nm) := h.box.cell 2
theorem Cb.c5 (h : Cb W w p d1 r d2 gb x) : w.cell? ⟨gb, 5, none⟩ = some (.slice x.p.A x.p.n x.p.c) := h.box.cell 5
theorem Cb.c23 (h : Cb W w p d1 r d2 gb x) : w.cell? ⟨gb, 2, none⟩ = some (.string x.nm) ∧ w.cell? ⟨gb, 3, none⟩ = some (.string x.tn) := ⟨h.box.cell 2, h.box.cell 3⟩
theorem Cb.c24 (h : Cb W w p d1 r d2 gb x) : w.cell? ⟨gb, 2, none⟩ = some (.string x.nm) ∧ w.cell? ⟨gb, 4, none⟩ = some (.slice x.d.A x.d.n x.d.c) := ⟨h.box.cell 2, h.box.cell 4⟩
theorem Cb.c21 (h : Cb W w p d1 r d2 gb x) : w.cell? ⟨gb, 2, none⟩ = some (.string x.nm) ∧ w.cell? ⟨gb, 1, none⟩ = some (.int .i64 x.n) := ⟨h.box.cell 2, h.box.cell 1⟩
theorem Cb.drop (h : Cb W w p d1 r d2 gb x) : Lb W (fun k => k < W.heap.size) w p d1 r d2 := h.l.drop (fun _ hk => .inl hk) (fun _ hk => hk)
theorem Lb.boxed (h : Lb W (fun k => k < W.heap.size) w p d1 r d2) (x : As) : Cb W (w.alloc (.cells (askRow x) 41)) p d1 r d2 w.heap.size x :=
  ⟨⟨kept_alloc h.low _, h.bo.more (kept_alloc (kept_refl w) _) fun k hk => by
    rcases hk with hk | ⟨a, ha, rfl⟩
    · exact .inl hk
    · injection ha with ha; subst ha; exact .inr ⟨Nat.le_refl _, by simp⟩, fun _ hk => .inl hk⟩, Row.new _ _ _⟩
/-- Where a slice that came in lies. -/
theorem came_out {X T : Nat → Prop} {A : Option Addr} {n c : Nat} {zs : List Int} (hs : SliceIn W A n c zs) (hX : ∀ k, k < W.heap.size → X k) (hT : ∀ k, T k → ¬ X k) : Out T A zs := fun hn a ha hk => by
  obtain ⟨b, off, e, hlt, _⟩ := hs.lies hn
  rw [e] at ha; injection ha with ha; subst ha; exact hT _ hk (hX _ hlt)
theorem came_outI {X T : Nat → Prop} {A : Option Addr} {n c : Nat} {zs : List Int} (hs : IntsIn W A n c zs) (hX : ∀ k, k < W.heap.size → X k) (hT : ∀ k, T k → ¬ X k) : Out T A zs := fun hn a ha hk => by
  obtain ⟨b, off, e, hlt, _⟩ := hs.lies hn
  rw [e] at ha; injection ha with ha; subst ha; exact hT _ hk (hX _ hlt)
theorem Cb.app1 {A : Option Addr} {n c : Nat} {zs : List Int} (h : Cb W w p d1 r d2 gb x) (ha : SliceIn W A n c zs) (hs : nm.size ≤ 140737488351232) (hln : d1.l.length ≤ 1000000) :
    Calls Try.prog 11 #[.pointer (some ⟨p, 0, none⟩), .string nm, .slice A n c] w fun e w' => e = .returned (.int .i64 (appE d1 nm zs)) ∧ Cb W w' p (appS d1 nm zs) r d2 gb x :=
  (h.l.opP fun _ hq hs' => append_q hq hs ha.len ha.nil (ha.lies.below h.l.low) (fun hn a e => hs' _ (ha.inX h.l.xs hn a e)) ha.oct (by omega)).mono fun _ _ ⟨h1, h2, h3⟩ => ⟨h1, h.step h2 h3⟩
theorem Cb.app2 {A : Option Addr} {n c : Nat} {zs : List Int} (h : Cb W w p d1 r d2 gb x) (ha : SliceIn W A n c zs) (hs : nm.size ≤ 140737488351232) (hln : d2.l.length ≤ 1000000) (hn : n ≤ 300) :
    Calls Try.prog 33 #[.pointer (some ⟨r, 0, none⟩), .string nm, .slice A n c] w fun e w' => e = .returned (.int .i64 (appE d2 nm zs)) ∧ Cb W w' p d1 r (appS d2 nm zs) gb x :=
  (h.l.opR (P := fun e => e = .returned (.int .i64 (appE d2 nm zs))) fun _ ⟨ho, _, _, _, hR⟩ hT => rapp_any hR ho hln (by omega) hs ha.len ha.nil (ha.lies.below h.l.low) (came_out ha h.l.xs hT) ha.oct).mono fun _ _ ⟨h1, h2, h3⟩ => ⟨h1, h.step h2 h3⟩
theorem Cb.syn1 (h : Cb W w p d1 r d2 gb x) (hs : nm.size ≤ 140737488351232) :
    Calls Try.prog 12 #[.pointer (some ⟨p, 0, none⟩), .string nm] w fun e w' => e = .returned (.int .i64 (synE d1 nm)) ∧ Cb W w' p (synS d1 nm) r d2 gb x :=
  (h.l.opP fun _ hq _ => sync_q hq (by unfold maxLen; omega)).mono fun _ _ ⟨h1, h2, h3⟩ => ⟨h1, h.step h2 h3⟩
theorem Cb.syn2 (h : Cb W w p d1 r d2 gb x) (hln : d2.l.length ≤ 1000000) :
    Calls Try.prog 34 #[.pointer (some ⟨r, 0, none⟩), .string nm] w fun e w' => e = .returned (.int .i64 (synE d2 nm)) ∧ Cb W w' p d1 r (synS d2 nm) gb x :=
  (h.l.opR (P := fun e => e = .returned (.int .i64 (synE d2 nm))) fun _ ⟨ho, _, _, _, hR⟩ _ => rsync_any hR ho hln).mono fun _ _ ⟨h1, h2, h3⟩ => ⟨h1, h.step h2 h3⟩
theorem Cb.cut1 (h : Cb W w p d1 r d2 gb x) (hs : nm.size ≤ 140737488351232) {n : Int} (hn : -9223372036854775808 ≤ n ∧ n ≤ 9223372036854775807) :
    Calls Try.prog 35 #[.pointer (some ⟨p, 0, none⟩), .string nm, .int .i64 n] w fun e w' => e = .returned (.int .i64 (cutE d1 nm n)) ∧ Cb W w' p (cutS d1 nm n) r d2 gb x :=
  (h.l.opP fun _ hq _ => cut_q hq (by unfold maxLen; omega) hn).mono fun _ _ ⟨h1, h2, h3⟩ => ⟨h1, h.step h2 h3⟩
theorem Cb.cut2 (h : Cb W w p d1 r d2 gb x) (hln : d2.l.length ≤ 1000000) (n : Int) :
    Calls Try.prog 36 #[.pointer (some ⟨r, 0, none⟩), .string nm, .int .i64 n] w fun e w' => e = .returned (.int .i64 (cutE d2 nm n)) ∧ Cb W w' p d1 r (cutS d2 nm n) gb x :=
  (h.l.opR (P := fun e => e = .returned (.int .i64 (cutE d2 nm n))) fun _ ⟨ho, _, _, _, hR⟩ _ => rcut_any hR ho hln n).mono fun _ _ ⟨h1, h2, h3⟩ => ⟨h1, h.step h2 h3⟩
theorem Cb.ren1 (h : Cb W w p d1 r d2 gb x) (hs : nm.size ≤ 140737488351232) (ht : tn.size ≤ 140737488351232) (hln : d1.l.length ≤ 1000000) :
    Calls Try.prog 21 #[.pointer (some ⟨p, 0, none⟩), .string nm, .string tn] w fun e w' => e = .returned (.int .i64 (renE d1 nm tn)) ∧ Cb W w' p (renS d1 nm tn) r d2 gb x :=
  (h.l.opP fun _ hq _ => rename_q hq (by unfold maxLen; omega) ht (by omega)).mono fun _ _ ⟨h1, h2, h3⟩ => ⟨h1, h.step h2 h3⟩
theorem Cb.ren2 (h : Cb W w p d1 r d2 gb x) (ht : tn.size ≤ 140737488351232) (hln : d2.l.length ≤ 1000000) :
    Calls Try.prog 37 #[.pointer (some ⟨r, 0, none⟩), .string nm, .string tn] w fun e w' => e = .returned (.int .i64 (renE d2 nm tn)) ∧ Cb W w' p d1 r (renS d2 nm tn) gb x :=
  (h.l.opR (P := fun e => e = .returned (.int .i64 (renE d2 nm tn))) fun _ ⟨ho, _, _, _, hR⟩ _ => rren_any hR ho hln ht).mono fun _ _ ⟨h1, h2, h3⟩ => ⟨h1, h.step h2 h3⟩
theorem Cb.rem1 (h : Cb W w p d1 r d2 gb x) (hs : nm.size ≤ 140737488351232) :
    Calls Try.prog 22 #[.pointer (some ⟨p, 0, none⟩), .string nm] w fun e w' => e = .returned (.int .i64 (remE d1 nm)) ∧ Cb W w' p (remS d1 nm) r d2 gb x :=
  (h.l.opP fun _ hq _ => remove_q hq (by unfold maxLen; omega)).mono fun _ _ ⟨h1, h2, h3⟩ => ⟨h1, h.step h2 h3⟩
theorem Cb.rem2 (h : Cb W w p d1 r d2 gb x) (hln : d2.l.length ≤ 1000000) :
    Calls Try.prog 38 #[.pointer (some ⟨r, 0, none⟩), .string nm] w fun e w' => e = .returned (.int .i64 (remE d2 nm)) ∧ Cb W w' p d1 r (remS d2 nm) gb x :=
  (h.l.opR (P := fun e => e = .returned (.int .i64 (remE d2 nm))) fun _ ⟨ho, _, _, _, hR⟩ _ => rrem_any hR ho hln).mono fun _ _ ⟨h1, h2, h3⟩ => ⟨h1, h.step h2 h3⟩
theorem Cb.arm1 (h : Cb W w p d1 r d2 gb x) {n : Int} (hn : -9223372036854775808 ≤ n ∧ n ≤ 9223372036854775807) :
    Calls Try.prog 15 #[.pointer (some ⟨p, 0, none⟩), .int .i64 n] w fun e w' => e = .returned (.tuple #[]) ∧ Cb W w' p (armS d1 n) r d2 gb x :=
  (h.l.opP fun _ hq _ => arm_q hq hn).mono fun _ _ ⟨h1, h2, h3⟩ => ⟨h1, h.step h2 h3⟩
theorem Cb.arm2 (h : Cb W w p d1 r d2 gb x) {n : Int} (hn : -9223372036854775808 ≤ n ∧ n ≤ 9223372036854775807) :
    Calls Try.prog 39 #[.pointer (some ⟨r, 0, none⟩), .int .i64 n] w fun e w' => e = .returned (.tuple #[]) ∧ Cb W w' p d1 r (armS d2 n) gb x :=
  (h.l.opR (P := fun e => e = .returned (.tuple #[])) fun T ⟨ho, _, _, _, hR⟩ _ => (rarm_any hR n).mono fun _ _ ⟨h1, h2, h3⟩ => ⟨h1, T, h2.rk (dok_arm ho n hn.2), Own.grown hR.sg h3⟩).mono fun _ _ ⟨h1, h2, h3⟩ => ⟨h1, h.step h2 h3⟩
theorem Cb.cra1 {A : Option Addr} {n c : Nat} {ps : List Int} (h : Cb W w p d1 r d2 gb x) (h3 : IntsIn W A n c ps) (hn : n ≤ 30) (hln : d1.l.length ≤ 1000000) :
    Calls Try.prog 13 #[.pointer (some ⟨p, 0, none⟩), .slice A n c] w fun e w' => e = .returned (.tuple #[]) ∧ Cb W w' p (craS d1 ps) r d2 gb x :=
  (h.l.opP fun _ hq hs' => crash_q hq hln (h3.lies.below h.l.low) h3.len (by omega) (fun hm a e => hs' _ (h.l.xs _ (by obtain ⟨b, off, e2, hlt, _⟩ := h3.lies hm; rw [e2] at e; injection e with e; subst e; exact hlt))) h3.ok).mono fun _ _ ⟨h1, h2, h3⟩ => ⟨h1, h.step h2 h3⟩
theorem Cb.cra2 {A : Option Addr} {n c : Nat} {ps : List Int} (h : Cb W w p d1 r d2 gb x) (h3 : IntsIn W A n c ps) (hn : n ≤ 30) (hln : d2.l.length ≤ 1000000) :
    Calls Try.prog 40 #[.pointer (some ⟨r, 0, none⟩), .slice A n c] w fun e w' => e = .returned (.tuple #[]) ∧ Cb W w' p d1 r (craS d2 ps) gb x :=
  (h.l.opR (P := fun e => e = .returned (.tuple #[])) fun _ ⟨ho, _, _, _, hR⟩ hT => rcrash_any n c hR ho hln (h3.lies.below h.l.low) h3.len (by omega) (came_outI h3 h.l.xs hT) h3.ok).mono fun _ _ ⟨h1, h2, h3⟩ => ⟨h1, h.step h2 h3⟩
end
/-- What a call makes of a disk. -/
def askS (d : DS) (x : As) : DS :=
  if x.k = 1 then appS d x.nm x.d.zs else if x.k = 2 then synS d x.nm else if x.k = 3 then cutS d x.nm x.n else if x.k = 4 then renS d x.nm x.tn else if x.k = 5 then remS d x.nm else if x.k = 6 then armS d x.n else if x.k = 7 then craS d x.p.zs else d
theorem len_ask (d : DS) (x : As) : (askS d x).l.length ≤ d.l.length + 1 := by
  unfold askS
  split
  · exact len_app ..
  · split
    · exact len_syn ..
    · split
      · exact len_cut ..
      · split
        · exact len_ren ..
        · split
          · exact len_rem ..
          · split
            · exact Nat.le_succ _
            · split
              · rw [cra_len]; exact Nat.le_succ _
              · exact Nat.le_succ _
end Go.Proofs.Ytllgjbkmemheoaa
