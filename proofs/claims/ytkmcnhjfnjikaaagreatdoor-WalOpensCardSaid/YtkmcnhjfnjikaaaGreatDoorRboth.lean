/- The program's Wal and the document's, each over its own disk, told the same. Conditions: as the calls' own. -/
import Derived.Test.YtkmcnhjfnjikaaaGreatDoorRkep
namespace Go.Proofs.YtkmcnhjfnjikaaaGreatDoor
open Go.RowKit Go.Maps
/-- A law's two disks with a Wal over each; what is in Y stays. -/
def Pw (Y : Nat → Prop) (W w : World) (p r P R : Nat) (d d' : DS) (x x' : WS) : Prop := Below W.heap.size W w ∧ (∀ k, k < W.heap.size → Y k) ∧ ∃ T, Rk T w r d' ∧ (∀ k, T k → ¬ Y k) ∧ Wq (fun k => (Y k ∨ T k) ∨ k = R) w P p d x ∧ Row w R 55 (rwRow r x') ∧ ¬ T R ∧ ¬ Y R
section
variable {Y Y' : Nat → Prop} {W w w' : World} {p r P R : Nat} {d d' d2 : DS} {x x' x2 : WS}
theorem Pw.low (h : Pw Y W w p r P R d d' x x') : Below W.heap.size W w := h.1
theorem Pw.more (h : Pw Y W w p r P R d d' x x') (hb : Below w.heap.size w w') (hW : ∀ k, k < W.heap.size → Y' k) (hY : ∀ k, Y' k → Y k ∨ (w.heap.size ≤ k ∧ k < w'.heap.size)) : Pw Y' W w' p r P R d d' x x' := by
  obtain ⟨h0, hy, T, h1, h2, h3, h4, h5, h6⟩ := h
  refine ⟨kept_trans h0 hb, hW, T, h1.below hb, fun k hk y => ?_, h3.more hb fun k hk => ?_, h4.below hb h4.lt, h5, fun y => ?_⟩
  · rcases hY k y with z | z
    · exact h2 k hk z
    · have := h1.lt k hk; omega
  · rcases hk with (y | t) | e
    · exact (hY k y).imp (fun z => .inl (.inl z)) id
    · exact .inl (.inl (.inr t))
    · exact .inl (.inr e)
  · rcases hY R y with z | z
    · exact h6 z
    · have := h4.lt; omega
theorem Pw.below (h : Pw Y W w p r P R d d' x x') (hb : Below w.heap.size w w') : Pw Y W w' p r P R d d' x x' := h.more hb h.2.1 fun _ => .inl
theorem Pw.less (h : Pw Y W w p r P R d d' x x') (hW : ∀ k, k < W.heap.size → Y' k) (hY : ∀ k, Y' k → Y k) : Pw Y' W w p r P R d d' x x' := h.more (Below.refl _ _) hW fun k y => .inl (hY k y)
theorem Pw.ok (h : Pw Y W w p r P R d d' x x') : DOk d' := by obtain ⟨_, _, T, h1, _⟩ := h; exact h1.ok
theorem Pw.row (h : Pw Y W w p r P R d d' x x') : Row w R 55 (rwRow r x') := by obtain ⟨_, _, T, _, _, _, h, _⟩ := h; exact h
theorem Pw.wq (h : Pw Y W w p r P R d d' x x') : Wq Y w P p d x := by obtain ⟨_, _, T, _, _, h, _⟩ := h; exact h.less fun k hk => .inl (.inl hk)
theorem Pw.drop (h : Pw Y W w p r P R d d' x x') : Lb W Y w p d r d' := by
  obtain ⟨h0, hy, T, h1, h2, h3, h4, h5, h6⟩ := h
  exact ⟨h0, ⟨T, h1, h2, h3.q.less fun k hk => .inl (.inl hk)⟩, hy⟩
/-- A call of the program's Wal. -/
theorem Pw.prog {f : FuncId} {args : Array Value} {v : Int} (h : Pw Y W w p r P R d d' x x')
    (hc : ∀ X, Wq X w P p d x → (∀ k, Y k → X k) → Calls Tryz.prog f args w (WqP X w P p v d2 x2)) :
    Calls Tryz.prog f args w fun e w' => e = .returned (.int .i64 v) ∧ Pw Y W w' p r P R d2 d' x2 x' ∧ Kx Y w w' := by
  obtain ⟨h0, hy, T, h1, h2, h3, h4, h5, h6⟩ := h
  refine (hc _ h3 fun k hk => .inl (.inl hk)).mono fun e w' ⟨he, hq, hk⟩ => ?_
  have hb := hk.below h0.size fun k hk => .inl (.inl (hy k hk))
  exact ⟨he, ⟨h0.trans hb, hy, T, h1.kept hk.size fun k hk2 => hk.same (.inl (.inr hk2)) (h1.lt k hk2), h2, hq, h4.same (hk.same (.inr rfl) h4.lt), h5, h6⟩, hk.mono fun k hk => .inl (.inl hk)⟩
theorem Wq.owned {X X' T T' : Nat → Prop} {g : Nat} (h : Wq X w P g d x) (hT : ∀ k, T k → X k) (ho : Own T w T' w') (hX : ∀ k, X' k → X k ∨ (w.heap.size ≤ k ∧ k < w'.heap.size)) : Wq X' w' P g d x := by
  obtain ⟨⟨S, h1, hs, hl⟩, hr, ha⟩ := h
  refine ⟨⟨S, h1.kept ho.turn.size (fun k hk => ho.turn.block k (h1.lt k hk) fun z => hs k hk (.inl (hT k z))), fun k hk y => ?_, fun k hk => ?_⟩, hr.same (ho.turn.block P hr.lt fun z => ha (hT _ z)), fun hk => ?_⟩
  · rcases y with y | y
    · rcases hX k y with z | z
      · exact hs k hk (.inl z)
      · have := h1.lt k hk; omega
    · exact hs k hk (.inr y)
  · have := ho.turn.size
    rcases hk with y | y
    · rcases hX k y with z | z
      · have := hl k (.inl z); omega
      · exact z.2
    · have := hl k (.inr y); omega
  · rcases hX P hk with z | z
    · exact ha z
    · have := hr.lt; omega
/-- A call of the document's Wal. -/
theorem Pw.ref {f : FuncId} {args : Array Value} {v : Int} (h : Pw Y W w p r P R d d' x x')
    (hc : ∀ T, Rk T w r d' → Row w R 55 (rwRow r x') → ¬ T R → Calls Tryz.prog f args w (RaP T w R r v d2 x2)) :
    Calls Tryz.prog f args w fun e w' => e = .returned (.int .i64 v) ∧ Pw Y W w' p r P R d d2 x x2 ∧ Kx Y w w' := by
  obtain ⟨h0, hy, T, h1, h2, h3, h4, h5, h6⟩ := h
  refine (hc T h1 h4 h5).mono fun e w' ⟨he, T', g1, g2, g3, ho⟩ => ?_
  have hk : Kx Y w w' := ho.turn.mono fun k hk y => by
    rcases hk with z | z
    · exact h2 k z y
    · exact h6 (z ▸ y)
  have hb := hk.below h0.size hy
  have hnew : ∀ k, T' k → T k ∨ (w.heap.size ≤ k ∧ k < w'.heap.size) := fun k hk => by
    rcases ho.new k (.inl hk) with z | z
    · rcases z with z | z
      · exact .inl z
      · exact absurd (z ▸ hk) g3
    · exact .inr ⟨z, g1.lt k hk⟩
  refine ⟨he, ⟨h0.trans hb, hy, T', g1, fun k hk y => ?_, h3.owned (T := fun k => T k ∨ k = R) (fun k hk => hk.imp .inr id) ho fun k hk => ?_, g2, g3, h6⟩, hk⟩
  · rcases hnew k hk with z | z
    · exact h2 k z y
    · have := h3.q.small k (.inl (.inl (.inl y))); omega
  · rcases hk with (hk | hk) | hk
    · exact .inl (.inl (.inl hk))
    · rcases hnew k hk with z | z
      · exact .inl (.inl (.inr z))
      · exact .inr z
    · exact .inl (.inr hk)
/-- A call on the program's disk. -/
theorem Pw.dprog {f : FuncId} {args : Array Value} {Q : Ending → Prop} (h : Pw Y W w p r P R d d' x x')
    (hc : ∀ X, Dq X w p d → (∀ k, Y k → X k) → Calls Tryz.prog f args w fun e w' => Q e ∧ Dq X w' p d2 ∧ Kx X w w') :
    Calls Tryz.prog f args w fun e w' => Q e ∧ Pw Y W w' p r P R d2 d' x x' ∧ Kx Y w w' := by
  obtain ⟨h0, hy, T, h1, h2, h3, h4, h5, h6⟩ := h
  refine (hc _ h3.q fun k hk => .inl (.inl (.inl hk))).mono fun e w' ⟨he, hq, hk⟩ => ?_
  have hb := hk.below h0.size fun k hk => .inl (.inl (.inl (hy k hk)))
  have ⟨hq2, hk2⟩ := h3.turn hq hk
  exact ⟨he, ⟨h0.trans hb, hy, T, h1.kept hk.size fun k hk3 => hk.same (.inl (.inl (.inr hk3))) (h1.lt k hk3), h2, hq2, h4.same (hk.same (.inl (.inr rfl)) h4.lt), h5, h6⟩, hk.mono fun k hk => .inl (.inl (.inl hk))⟩
/-- A call on the document's disk. -/
theorem Pw.dref {f : FuncId} {args : Array Value} {Q : Ending → Prop} (h : Pw Y W w p r P R d d' x x')
    (hc : ∀ T, Rk T w r d' → (∀ k, T k → ¬ Y k) → Calls Tryz.prog f args w fun e w' => Q e ∧ ∃ T', Rk T' w' r d2 ∧ Own T w T' w') :
    Calls Tryz.prog f args w fun e w' => Q e ∧ Pw Y W w' p r P R d d2 x x' ∧ Kx Y w w' := by
  obtain ⟨h0, hy, T, h1, h2, h3, h4, h5, h6⟩ := h
  refine (hc T h1 h2).mono fun e w' ⟨he, T', g1, ho⟩ => ?_
  have hk : Kx Y w w' := ho.turn.mono h2
  have hb := hk.below h0.size hy
  have hrl := h4.lt
  refine ⟨he, ⟨h0.trans hb, hy, T', g1, fun k hk y => ?_, h3.owned (T := T) (fun k hk => .inl (.inr hk)) ho fun k hk => ?_, h4.same (ho.turn.block R hrl h5), fun hk => ?_, h6⟩, hk⟩
  · rcases ho.new k hk with z | z
    · exact h2 k z y
    · have := h3.q.small k (.inl (.inl (.inl y))); omega
  · rcases hk with (hk | hk) | hk
    · exact .inl (.inl (.inl hk))
    · rcases ho.new k hk with z | z
      · exact .inl (.inl (.inr z))
      · exact .inr ⟨z, g1.lt k hk⟩
    · exact .inl (.inr hk)
  · rcases ho.new R hk with z | z
    · exact h5 z
    · omega
variable {A : Option Addr} {n c : Nat} {F : List (List Int)} {ps : List Int}
theorem Pw.padd (h : Pw Y W w p r P R d d' x x') (hr : Recs Y w A c F) (hn : F.length = n) (hl : n ≤ 100000) (hs : ∀ q, q ∈ F → q.length ≤ 1000000) (hG : x.G < 98) (hK : x.K < 98) (hd : d.l.length ≤ 80) :
    Calls Tryz.prog 12 #[.pointer (some ⟨P, 0, none⟩), .slice A n c] w fun e w' => e = .returned (.int .i64 (adE d x F)) ∧ Pw Y W w' p r P R (adS d x F) d' (adW d x F) x' ∧ Kx Y w w' :=
  h.prog fun _ hq hY => add_any hq (by omega) (by omega) (by omega) hr hY hn hl hs
theorem Pw.panew (h : Pw Y W w p r P R d d' x x') (hr : Recs Y w A c F) (hn : F.length = n) (hl : n ≤ 100000) (hs : ∀ q, q ∈ F → q.length ≤ 1000000) (hG : x.G < 98) (hd : d.l.length ≤ 80) :
    Calls Tryz.prog 13 #[.pointer (some ⟨P, 0, none⟩), .slice A n c] w fun e w' => e = .returned (.int .i64 (anE d x F)) ∧ Pw Y W w' p r P R (anS d x F) d' (anW d x F) x' ∧ Kx Y w w' :=
  h.prog fun _ hq hY => anew_any hq (by omega) (by omega) hr hY hn hl hs
theorem Pw.radd (h : Pw Y W w p r P R d d' x x') (hr : Recs Y w A c F) (hn : F.length = n) (hl : n ≤ 100000) (hs : ∀ q, q ∈ F → q.length ≤ 1000000) (hG : x'.G < 98) (hK : x'.K < 98) (hK1 : x'.G ≠ 0 → 1 ≤ x'.K) (hd : d'.l.length ≤ 80) (hz : (enc F).length ≤ 1000000) :
    Calls Tryz.prog 20 #[.pointer (some ⟨R, 0, none⟩), .slice A n c] w fun e w' => e = .returned (.int .i64 (adE d' x' F)) ∧ Pw Y W w' p r P R d (adS d' x' F) x (adW d' x' F) ∧ Kx Y w w' :=
  h.ref fun _ h1 h2 h3 => radd_any h1 h2 h3 (by omega) (by omega) hK1 hd hr hn hl hs hz
theorem Pw.ranew (h : Pw Y W w p r P R d d' x x') (hr : Recs Y w A c F) (hn : F.length = n) (hl : n ≤ 100000) (hs : ∀ q, q ∈ F → q.length ≤ 1000000) (hG : x'.G < 98) (hK : x'.K < 98) (hK0 : x'.K ≠ 0 → x'.G ≠ 0) (hd : d'.l.length ≤ 80) (hz : (anB F).length ≤ 1000000) (hO : x'.bad = false → anO d' x' F = oldN x'.G x'.K) :
    Calls Tryz.prog 21 #[.pointer (some ⟨R, 0, none⟩), .slice A n c] w fun e w' => e = .returned (.int .i64 (anE d' x' F)) ∧ Pw Y W w' p r P R d (anS d' x' F) x (anW d' x' F) ∧ Kx Y w w' :=
  h.ref fun _ h1 h2 h3 => ranew_any h1 h2 h3 hG hK hK0 hd hr hn hl hs hz hO
theorem Pw.parm {v : Int} (h : Pw Y W w p r P R d d' x x') (hn : -9223372036854775808 ≤ v ∧ v ≤ 9223372036854775807) :
    Calls Tryz.prog 22 #[.pointer (some ⟨p, 0, none⟩), .int .i64 v] w fun e w' => e = .returned (.tuple #[]) ∧ Pw Y W w' p r P R (armS d v) d' x x' ∧ Kx Y w w' :=
  h.dprog fun _ hq _ => arm_q hq hn
theorem Pw.rarm {v : Int} (h : Pw Y W w p r P R d d' x x') (hn : -9223372036854775808 ≤ v ∧ v ≤ 9223372036854775807) :
    Calls Tryz.prog 23 #[.pointer (some ⟨r, 0, none⟩), .int .i64 v] w fun e w' => e = .returned (.tuple #[]) ∧ Pw Y W w' p r P R d (armS d' v) x x' ∧ Kx Y w w' :=
  h.dref (Q := fun e => e = .returned (.tuple #[])) fun T ⟨ho, _, _, _, hR⟩ _ => (rarm_any hR v).mono fun _ _ ⟨h1, h2, h3⟩ => ⟨h1, T, h2.rk (dok_arm ho v hn.2), Own.grown hR.sg h3⟩
theorem Lb.parm {v : Int} (h : Lb W Y w p d r d') (hn : -9223372036854775808 ≤ v ∧ v ≤ 9223372036854775807) :
    Calls Tryz.prog 22 #[.pointer (some ⟨p, 0, none⟩), .int .i64 v] w fun e w' => e = .returned (.tuple #[]) ∧ Lb W Y w' p (armS d v) r d' ∧ Kx Y w w' :=
  h.opP fun _ hq _ => arm_q hq hn
theorem Lb.rarm {v : Int} (h : Lb W Y w p d r d') (hn : -9223372036854775808 ≤ v ∧ v ≤ 9223372036854775807) :
    Calls Tryz.prog 23 #[.pointer (some ⟨r, 0, none⟩), .int .i64 v] w fun e w' => e = .returned (.tuple #[]) ∧ Lb W Y w' p d r (armS d' v) ∧ Kx Y w w' :=
  h.opR (P := fun e => e = .returned (.tuple #[])) fun T ⟨ho, _, _, _, hR⟩ _ => (rarm_any hR v).mono fun _ _ ⟨h1, h2, h3⟩ => ⟨h1, T, h2.rk (dok_arm ho v hn.2), Own.grown hR.sg h3⟩
theorem Lb.pcra (h : Lb W Y w p d r d') (hln : d.l.length ≤ 1000000) (hp : IntsIn W A n c ps) (hnn : n ≤ 20) :
    Calls Tryz.prog 24 #[.pointer (some ⟨p, 0, none⟩), .slice A n c] w fun e w' => e = .returned (.tuple #[]) ∧ Lb W Y w' p (craS d ps) r d' ∧ Kx Y w w' :=
  h.opP fun _ hq hs' => crash_q hq hln (hp.lies.below h.low) hp.len (by omega) (fun hm a e => hs' _ (h.xs _ (by obtain ⟨b, off, e2, hlt, _⟩ := hp.lies hm; rw [e2] at e; injection e with e; subst e; exact hlt))) hp.ok
theorem Lb.rcra (h : Lb W Y w p d r d') (hln : d'.l.length ≤ 1000000) (hp : IntsIn W A n c ps) (hnn : n ≤ 20) :
    Calls Tryz.prog 25 #[.pointer (some ⟨r, 0, none⟩), .slice A n c] w fun e w' => e = .returned (.tuple #[]) ∧ Lb W Y w' p d r (craS d' ps) ∧ Kx Y w w' :=
  h.opR (P := fun e => e = .returned (.tuple #[])) fun _ ⟨ho, _, _, _, hR⟩ hT => rcrash_any n c hR ho hln (hp.lies.below h.low) hp.len (by omega) (came_outI hp h.xs hT) hp.ok
theorem Lb.more (h : Lb W Y w p d r d') (hb : Below w.heap.size w w') (hW : ∀ k, k < W.heap.size → Y' k) (hY : ∀ k, Y' k → Y k ∨ (w.heap.size ≤ k ∧ k < w'.heap.size)) : Lb W Y' w' p d r d' := ⟨kept_trans h.low hb, h.bo.more hb hY, hW⟩
end
/-- Records that came in. -/
theorem recs_in {W w : World} {A : Option Addr} {m c : Nat} {it : Nat → Sb} (h : PartsIn W A m c it) (hb : Below W.heap.size W w) : Recs (fun k => k < W.heap.size) w A c ((List.range m).map fun i => (it i).zs) := by
  refine ⟨by rw [List.length_map, List.length_range]; exact h.le, fun q hq => ?_, fun j q hj => ?_⟩
  · obtain ⟨i, hi, rfl⟩ := List.mem_map.1 hq
    obtain ⟨_, _, _, _, _, hs⟩ := h.at_ i (List.mem_range.1 hi)
    exact hs.oct
  · have hjm : j < m := by
      rcases Nat.lt_or_ge j m with h1 | h1
      · exact h1
      · rw [List.getElem?_eq_none (by rw [List.length_map, List.length_range]; exact h1)] at hj; cases hj
    rw [List.getElem?_map, List.getElem?_range hjm] at hj
    simp at hj
    subst hj
    obtain ⟨b, off, e, hlt, hc, hs⟩ := h.at_ j hjm
    refine ⟨b, off, e, hlt, Nat.lt_of_lt_of_le hlt hb.size, (it j).A, (it j).c, ?_, ⟨hs.lies.below hb, by have := hs.len; have := hs.le; omega, hs.nil⟩, fun h0 a ha => ?_⟩
    · rw [hs.len]; exact (hb.cell (p := ⟨b, off + j, none⟩) hlt).trans hc
    · obtain ⟨b2, off2, e2, hlt2, _⟩ := hs.lies h0
      rw [e2] at ha; injection ha with ha; subst ha
      exact ⟨hlt2, Nat.lt_of_lt_of_le hlt2 hb.size⟩
theorem smL_sum (it : Nat → Sb) : ∀ {m : Nat}, ((List.range m).map fun i => (it i).zs).length ≤ smL it m ∧ (enc ((List.range m).map fun i => (it i).zs)).length ≤ 6 * smL it m ∧ ∀ q, q ∈ ((List.range m).map fun i => (it i).zs) → q.length ≤ smL it m
  | 0 => ⟨Nat.le_refl _, by simp [enc_nil], fun q hq => by simp at hq⟩
  | m + 1 => by
    obtain ⟨h1, h2, h3⟩ := smL_sum it (m := m)
    have e : smL it (m + 1) = smL it m + ((it m).zs.length + 1) := rfl
    rw [List.range_succ, List.map_append, e]
    refine ⟨by rw [List.length_append, List.map_cons, List.map_nil, List.length_cons, List.length_nil]; omega, ?_, fun q hq => ?_⟩
    · rw [enc_append, List.length_append, List.map_cons, List.map_nil, enc_cons, enc_nil, List.length_append, length_frm]
      simp
      omega
    · rcases List.mem_append.1 hq with hq | hq
      · have := h3 q hq; omega
      · rw [List.map_cons, List.map_nil, List.mem_singleton] at hq
        subst hq
        omega
/-- The records that Open hands over are few. -/
theorem rd_len {d : DS} (hok : DOk d) (g : Nat) : ∀ f k s, (rd d.l g f k s).L.length ≤ s.L.length + f * 1048576
  | 0, _, s => by show s.L.length ≤ _; omega
  | f + 1, k, s => by
    unfold rd
    cases hf : find (segN g k) d.l with
    | none => show s.L.length ≤ _; omega
    | some x =>
      have hx := (find_mem hf).1
      have h1 := flen hok hx
      have h2 := len_enc (frs x.dt)
      have h3 := (frs_parts (hok.oct x hx)).2.2.1
      have h4 := fpl_le x.dt
      have e : (s.more k x.dt).L.length = s.L.length + (frs x.dt).length := by show (s.L ++ frs x.dt).length = _; rw [List.length_append]
      dsimp only
      split
      · rw [e]; omega
      · have := rd_len hok g f (k + 1) (s.more k x.dt)
        rw [e] at this
        omega
theorem opL_len {d : DS} (hok : DOk d) (h : d.l.length ≤ 100) : (opL d).length ≤ 200000000 := by
  unfold opL opZ
  rw [List.length_tail]
  split
  · exact Nat.zero_le _
  · have := rd_len hok (opG d) (d.l.length + 2) 1 Gs.zero
    have e : Gs.zero.L.length = 0 := rfl
    rw [e] at this
    unfold gen
    omega
end Go.Proofs.YtkmcnhjfnjikaaaGreatDoor
/- Both Open, told the same; lists of many records. Conditions: as the calls' own. -/
namespace Go.Proofs.YtkmcnhjfnjikaaaGreatDoor
open Go.RowKit Go.Maps
set_option maxRecDepth 100000 in
set_option maxHeartbeats 1000000 in
theorem lists_big {Y Y' : Nat → Prop} {A B : Option Addr} {n m c d : Nat} {L M : List (List Int)} {w : World} (hA : Recs Y w A c L) (hB : Recs Y' w B d M) (hn : L.length = n) (hm : M.length = m) (ln : n ≤ 1000000000) (lm : m ≤ 1000000000)
    (sL : ∀ p, p ∈ L → p.length ≤ 1000000) (sM : ∀ p, p ∈ M → p.length ≤ 1000000) :
    Calls Tryz.prog 26 #[.slice A n c, .slice B m d] w fun e w' => e = .returned (.bool (decide (L = M))) ∧ ∃ q, w' = w.drewN q := by
  have hA := hide hA
  have hB := hide hB
  have sL := hide sL
  have sM := hide sM
  by_cases hlen : n = m
  · subst hlen
    have t1 : ((n : Int) != (n : Int)) = false := by simp
    have hn' := hide hn
    have hm' := hide hm
    go_enter Tryz.func26, Tryz.ntmps26
    go_wp2
    go_loopw [5] (fun i wr => ∃ (j q : Nat), j ≤ n ∧ i = .int .i64 j ∧ Hid (wr = w.drewN q) ∧ Hid (L.take j = M.take j)) (fun i _ => n - (intOf i).toNat)
    case atStart => exact ⟨0, 0, by omega, rfl, rfl, (show L.take 0 = M.take 0 from rfl)⟩
    case round =>
      obtain ⟨j, q, hj, rfl, hw, hT⟩ := hrel
      by_cases hlt : j < n
      · obtain ⟨x, hx⟩ : ∃ y, L[j]? = some y := ⟨L[j]'(by omega), List.getElem?_eq_getElem (by omega)⟩
        obtain ⟨y, hy⟩ : ∃ y, M[j]? = some y := ⟨M[j]'(by omega), List.getElem?_eq_getElem (by omega)⟩
        obtain ⟨b, off, rfl, _, hbl, A', c', hc, hel, _⟩ := hA.out.at' j x hx
        obtain ⟨b2, off2, rfl, _, hbl2, A2, c2, hc2, hel2, _⟩ := hB.out.at' j y hy
        obtain ⟨k1, hk1⟩ : ∃ m, x.length = m := ⟨_, rfl⟩
        obtain ⟨k2, hk2⟩ : ∃ m, y.length = m := ⟨_, rfl⟩
        rw [hk1] at hc
        rw [hk2] at hc2
        have ew := hw.out
        have hc : wr.cell? ⟨b, off + j, none⟩ = some (.slice A' k1 c') := by rw [ew]; exact hc
        have hc2 : wr.cell? ⟨b2, off2 + j, none⟩ = some (.slice A2 k2 c2) := by rw [ew]; exact hc2
        have hz1 : Lies wr A' x := by rw [ew]; exact hel.lies
        have hz2 : Lies wr A2 y := by rw [ew]; exact hel2.lies
        clear ew
        have hsm := hide (fun q => same_q (c := c') (d := c2) hk1 hk2 hz1 hz2 (by have := sL.out x (List.mem_of_getElem? hx); omega) (by have := sM.out y (List.mem_of_getElem? hy); omega) q)
        have hx := hide hx
        have hy := hide hy
        clear hel hel2 hk1 hk2 hz1 hz2
        by_cases he : x = y
        · have hT2 := hide (show L.take (j + 1) = M.take (j + 1) by rw [List.take_add_one, List.take_add_one, hx.out, hy.out, hT.out, he])
          rw [decide_eq_true he] at hsm
          clear he
          go_wp2
          go_quiet ((go_at_call 58; exact hsm.out _))
          go_wp2
          go_roundw
          case rel => exact ⟨j + 1, _, by omega, by simp; try omega, by rw [hw.out]; exact World.drewN_drewN _ _ _, hT2⟩
          case measure => simp [intOf]; omega
        · have hne := hide (show L ≠ M from fun h => he (by have h1 := hx.out; have h2 := hy.out; rw [h, h2] at h1; exact (Option.some.inj h1).symm))
          rw [decide_eq_false he] at hsm
          clear he
          go_wp2
          go_quiet ((go_at_call 58; exact hsm.out _))
          go_wp2
          go_ret
          exact ⟨by rw [decide_eq_false hne.out]; rfl, _, by rw [hw.out]; exact World.drewN_drewN _ _ _⟩
      · obtain rfl : j = n := by omega
        have hE := hide (show L = M by have h1 := hT.out; rwa [List.take_of_length_le (by omega), List.take_of_length_le (by omega)] at h1)
        clear hn hm
        go_wp2
        go_ret
        exact ⟨by rw [decide_eq_true hE.out]; rfl, q, hw.out⟩
  · have t1 : ((n : Int) != (m : Int)) = true := by simp; omega
    have hne := hide (show L ≠ M from fun h => hlen (by rw [← hn, ← hm, h]))
    clear hn hm hlen
    go_enter Tryz.func26, Tryz.ntmps26
    go_wp2
    go_ret
    exact ⟨by rw [decide_eq_false hne.out]; rfl, 0, rfl⟩

/-- Both disks; a Wal over the program's alone: what it handed over stands too. -/
def Mw (Y : Nat → Prop) (W w : World) (p r P : Nat) (d d' : DS) (x : WS) (A : Option Addr) (c : Nat) (L : List (List Int)) : Prop := Below W.heap.size W w ∧ (∀ k, k < W.heap.size → Y k) ∧ ∃ T Z, Rk T w r d' ∧ (∀ k, T k → ¬ Y k) ∧ (∀ k, Z k → ¬ T k) ∧ Wq (fun k => (Y k ∨ T k) ∨ Z k) w P p d x ∧ Recs Z w A c L
section
variable {Y : Nat → Prop} {W w w' : World} {p r P m : Nat} {d d' : DS}
theorem Lb.popenE (h : Lb W Y w p d r d') (hs : Sm m d.l) (hm : m ≤ 60) (hE : opE d ≠ 0) :
    Calls Tryz.prog 11 #[.pointer (some ⟨p, 0, none⟩)] w fun e w' => e = .returned (.tuple #[.pointer none, .slice none 0 0, .int .i64 (opE d)]) ∧ Lb W Y w' p (opS d) r d' ∧ Kx Y w w' :=
  h.opP fun _ hq _ => (open_any hq hs hm).mono fun e w' ⟨hk, h⟩ => by
    rcases h with ⟨_, h1, h2⟩ | ⟨h1, _⟩
    · exact ⟨h1, h2, hk⟩
    · exact absurd h1 hE
theorem Lb.popen (h : Lb W Y w p d r d') (hs : Sm m d.l) (hm : m ≤ 60) (hE : opE d = 0) :
    Calls Tryz.prog 11 #[.pointer (some ⟨p, 0, none⟩)] w fun e w' => ∃ P A c, e = .returned (.tuple #[.pointer (some ⟨P, 0, none⟩), .slice A (opL d).length c, .int .i64 0]) ∧ Mw Y W w' p r P (opS d) d' ⟨opG d, (opZ d).k, false⟩ A c (opL d) ∧ Kx Y w w' := by
  obtain ⟨h0, ⟨T, h1, h2, h3⟩, hy⟩ := h
  refine (open_any h3 hs hm).mono fun e w' ⟨hk, h⟩ => ?_
  rcases h with ⟨h1, _⟩ | ⟨_, P, A, c, Z, he, hP, hZ, hq, hr⟩
  · exact absurd hE h1
  · have hk2 : Kx Y w w' := hk.mono fun _ => .inl
    exact ⟨P, A, c, he, ⟨h0.trans (hk2.below h0.size hy), hy, T, Z, h1.kept hk.size fun k hk3 => hk.same (.inr hk3) (h1.lt k hk3), h2, fun k z t => by have := (hZ k z).1; have := h1.lt k t; omega, hq, hr⟩, hk2⟩
theorem Lb.ropenE (h : Lb W Y w p d r d') (hs : Sm m d'.l) (hm : m ≤ 60) (hE : opE d' ≠ 0) :
    Calls Tryz.prog 18 #[.pointer (some ⟨r, 0, none⟩)] w fun e w' => e = .returned (.tuple #[.pointer none, .slice none 0 0, .int .i64 (opE d')]) ∧ Lb W Y w' p d r (opS d') ∧ Kx Y w w' :=
  h.opR (P := fun e => e = .returned (.tuple #[.pointer none, .slice none 0 0, .int .i64 (opE d')])) fun T h1 _ => (ropen_any h1 hs hm).mono fun e w' ⟨T', g1, g2, g3⟩ => by
    rcases g3 with ⟨_, g4⟩ | ⟨g4, _⟩
    · exact ⟨g4, T', g1, g2⟩
    · exact absurd g4 hE
theorem Mw.ropen {x : WS} {A : Option Addr} {c : Nat} {L : List (List Int)} (h : Mw Y W w p r P d d' x A c L) (hs : Sm m d'.l) (hm : m ≤ 60) (hE : opE d' = 0) :
    Calls Tryz.prog 18 #[.pointer (some ⟨r, 0, none⟩)] w fun e w' => ∃ R A2 c2, e = .returned (.tuple #[.pointer (some ⟨R, 0, none⟩), .slice A2 (opL d').length c2, .int .i64 0]) ∧
      Pw Y W w' p r P R d (opS d') x ⟨opG d', (opZ d').k, false⟩ ∧ Kx Y w w' ∧ (∃ Z, Recs Z w' A c L) ∧ ∃ Z, Recs Z w' A2 c2 (opL d') := by
  obtain ⟨h0, hy, T, Z, h1, h2, h3, h4, h5⟩ := h
  have hok := h1.ok
  refine (ropen_any h1 hs hm).mono fun e w' ⟨T', g1, ho, g3⟩ => ?_
  rcases g3 with ⟨g4, _⟩ | ⟨_, R, A2, c2, he, hR, hRT, hrow, hc2, hparts⟩
  · exact absurd hE g4
  · have hk : Kx Y w w' := ho.turn.mono h2
    have hY : ∀ k, Y k → k < w.heap.size := fun k y => h4.q.small k (.inl (.inl (.inl y)))
    refine ⟨R, A2, c2, he, ⟨h0.trans (hk.below h0.size hy), hy, T', g1, fun k t y => ?_, h4.owned (T := T) (fun k t => .inl (.inr t)) ho fun k hk2 => ?_, hrow, hRT, fun y => ?_⟩, hk, ⟨Z, h5.kx (ho.turn.mono fun k t z => h3 k z t) fun _ z => z⟩, ⟨_, Recs.of_parts hparts hc2 fun q hq => (opL_oct hok q hq).1⟩⟩
    · rcases ho.new k t with z | z
      · exact h2 k z y
      · have := hY k y; omega
    · rcases hk2 with (y | t) | e
      · exact .inl (.inl (.inl y))
      · rcases ho.new k t with z | z
        · exact .inl (.inl (.inr z))
        · exact .inr ⟨z, g1.lt k t⟩
      · exact .inr ⟨by omega, by have := hrow.lt; omega⟩
    · have := hY R y; omega
end
end Go.Proofs.YtkmcnhjfnjikaaaGreatDoor
/- A round of law 10's plays: the call lies in a block of its own. Conditions: as the calls' own. -/
namespace Go.Proofs.YtkmcnhjfnjikaaaGreatDoor
open Go.RowKit Go.Maps
def Yb (W : World) (B : Nat) : Nat → Prop := fun k => k < W.heap.size ∨ k = B
/-- What the law holds on to, and the call at block B. -/
def Bx (S : (Nat → Prop) → World → Prop) (W w : World) (B : Nat) (a : La) : Prop := S (Yb W B) w ∧ Row w B 46 #[.int .i64 a.k, .int .i64 a.n, .slice a.A a.m a.c, .slice a.p.A a.p.n a.p.c]
section
variable {S S' : (Nat → Prop) → World → Prop} {W w w' : World} {B : Nat} {a : La}
theorem Bx.c2 (h : Bx S W w B a) : w.cell? ⟨B, 2, none⟩ = some (.slice a.A a.m a.c) := h.2.cell 2
theorem Bx.c3 (h : Bx S W w B a) : w.cell? ⟨B, 3, none⟩ = some (.slice a.p.A a.p.n a.p.c) := h.2.cell 3
theorem Bx.c1 (h : Bx S W w B a) : w.cell? ⟨B, 1, none⟩ = some (.int .i64 a.n) := h.2.cell 1
theorem Bx.c0 (h : Bx S W w B a) : w.cell? ⟨B, 0, none⟩ = some (.int .i64 a.k) := h.2.cell 0
theorem Bx.call {f : FuncId} {args : Array Value} {Q : Ending → Prop} (h : Bx S W w B a) (hc : S (Yb W B) w → Calls Tryz.prog f args w fun e w' => Q e ∧ S' (Yb W B) w' ∧ Kx (Yb W B) w w') :
    Calls Tryz.prog f args w fun e w' => Q e ∧ Bx S' W w' B a :=
  (hc h.1).mono fun _ _ ⟨h1, h2, h3⟩ => ⟨h1, h2, h.2.same (h3.same (.inr rfl) h.2.lt)⟩
end
section
variable {W w w' : World} {B p r P R j : Nat} {a : La} {d d2 : DS} {x x2 : WS}
abbrev SP (W : World) (p r P R : Nat) (d d' : DS) (x x' : WS) : (Nat → Prop) → World → Prop := fun Y w => Pw Y W w p r P R d d' x x'
abbrev SL (W : World) (p r : Nat) (d d' : DS) : (Nat → Prop) → World → Prop := fun Y w => Lb W Y w p d r d'
abbrev SM (W : World) (p r P : Nat) (d d' : DS) (x : WS) (A : Option Addr) (c : Nat) (L : List (List Int)) : (Nat → Prop) → World → Prop := fun Y w => Mw Y W w p r P d d' x A c L
def recF (a : La) : List (List Int) := (List.range a.m).map fun i => (a.it i).zs
theorem recF_len (a : La) : (recF a).length = a.m := by unfold recF; rw [List.length_map, List.length_range]
theorem anB_len (F : List (List Int)) : (anB F).length ≤ 100 + (enc F).length := by
  rw [anB_cons, List.length_append, length_frm]
  have := num7_len (F.length : Nat)
  omega
theorem Bx.pw (h : Bx (SP W p r P R d d2 x x2) W w B a) : Pw (fun k => k < W.heap.size) W w p r P R d d2 x x2 := h.1.less (fun _ hk => hk) fun _ hk => .inl hk
theorem Bx.lb (h : Bx (SL W p r d d2) W w B a) : Lb W (fun k => k < W.heap.size) w p d r d2 := h.1.drop (fun _ hk => .inl hk) fun _ hk => hk
theorem Bx.startP (h : Pw (fun k => k < W.heap.size) W w p r P R d d2 x x2) (a : La) : Bx (SP W p r P R d d2 x x2) W (w.alloc (.cells #[.int .i64 a.k, .int .i64 a.n, .slice a.A a.m a.c, .slice a.p.A a.p.n a.p.c] 46)) w.heap.size a :=
  ⟨h.more (below_alloc' w _) (fun _ hk => .inl hk) fun k hk => hk.imp id fun e => by subst e; exact ⟨Nat.le_refl _, by simp⟩, Row.new w _ _⟩
theorem Bx.startL (h : Lb W (fun k => k < W.heap.size) w p d r d2) (a : La) : Bx (SL W p r d d2) W (w.alloc (.cells #[.int .i64 a.k, .int .i64 a.n, .slice a.A a.m a.c, .slice a.p.A a.p.n a.p.c] 46)) w.heap.size a :=
  ⟨h.more (below_alloc' w _) (fun _ hk => .inl hk) fun k hk => hk.imp id fun e => by subst e; exact ⟨Nat.le_refl _, by simp⟩, Row.new w _ _⟩
theorem Bx.belowP (h : Bx (SP W p r P R d d2 x x2) W w B a) (hb : Below w.heap.size w w') : Bx (SP W p r P R d d2 x x2) W w' B a := ⟨h.1.below hb, h.2.below hb h.2.lt⟩
theorem Bx.belowL (h : Bx (SL W p r d d2) W w B a) (hb : Below w.heap.size w w') : Bx (SL W p r d d2) W w' B a := ⟨Lb.below h.1 hb, h.2.below hb h.2.lt⟩
theorem Bx.toL (h : Bx (SP W p r P R d d2 x x2) W w B a) : Bx (SL W p r d d2) W w B a := ⟨Pw.drop h.1, h.2⟩
variable (hok : LaOk W a) (hsm : smL a.it a.m ≤ 9000)
include hok hsm
theorem recF_in {w : World} (hb : Below W.heap.size W w) : Recs (Yb W B) w a.A a.c (recF a) ∧ (recF a).length ≤ 9000 ∧ (enc (recF a)).length ≤ 54000 ∧ ∀ q, q ∈ recF a → q.length ≤ 9000 := by
  obtain ⟨h1, h2, h3⟩ := smL_sum a.it (m := a.m)
  exact ⟨(recs_in hok.r hb).mono fun _ hk _ => .inl hk, Nat.le_trans h1 hsm, Nat.le_trans h2 (by omega), fun q hq => Nat.le_trans (h3 q hq) hsm⟩
theorem Bx.padd (h : Bx (SP W p r P R d d x x) W w B a) (hp : Pi j d x) (hj : j ≤ 40) :
    Calls Tryz.prog 12 #[.pointer (some ⟨P, 0, none⟩), .slice a.A a.m a.c] w fun e w' => e = .returned (.int .i64 (adE d x (recF a))) ∧ Bx (SP W p r P R (adS d x (recF a)) d (adW d x (recF a)) x) W w' B a := by
  obtain ⟨h1, h2, _, h4⟩ := recF_in (B := B) hok hsm h.1.low
  have := recF_len a
  have hG := hp.G
  have hK := hp.K
  have hl := hp.sm.len
  exact h.call (Q := fun e => e = .returned (.int .i64 (adE d x (recF a)))) fun h0 => Pw.padd h0 h1 (recF_len a) (by omega) (fun q hq => by have := h4 q hq; omega) (by omega) (by omega) (by omega)
theorem Bx.panew (h : Bx (SP W p r P R d d x x) W w B a) (hp : Pi j d x) (hj : j ≤ 40) :
    Calls Tryz.prog 13 #[.pointer (some ⟨P, 0, none⟩), .slice a.A a.m a.c] w fun e w' => e = .returned (.int .i64 (anE d x (recF a))) ∧ Bx (SP W p r P R (anS d x (recF a)) d (anW d x (recF a)) x) W w' B a := by
  obtain ⟨h1, h2, _, h4⟩ := recF_in (B := B) hok hsm h.1.low
  have := recF_len a
  have hG := hp.G
  have hl := hp.sm.len
  exact h.call (Q := fun e => e = .returned (.int .i64 (anE d x (recF a)))) fun h0 => Pw.panew h0 h1 (recF_len a) (by omega) (fun q hq => by have := h4 q hq; omega) (by omega) (by omega)
theorem Bx.radd (h : Bx (SP W p r P R d2 d x2 x) W w B a) (hp : Pi j d x) (hj : j ≤ 40) :
    Calls Tryz.prog 20 #[.pointer (some ⟨R, 0, none⟩), .slice a.A a.m a.c] w fun e w' => e = .returned (.int .i64 (adE d x (recF a))) ∧ Bx (SP W p r P R d2 (adS d x (recF a)) x2 (adW d x (recF a))) W w' B a := by
  obtain ⟨h1, h2, h3, h4⟩ := recF_in (B := B) hok hsm h.1.low
  have := recF_len a
  have hG := hp.G
  have hK := hp.K
  have hl := hp.sm.len
  exact h.call (Q := fun e => e = .returned (.int .i64 (adE d x (recF a)))) fun h0 => Pw.radd h0 h1 (recF_len a) (by omega) (fun q hq => by have := h4 q hq; omega) (by omega) (by omega) hp.pos (by omega) (by omega)
theorem Bx.ranew (h : Bx (SP W p r P R d2 d x2 x) W w B a) (hp : Pi j d x) (hj : j ≤ 40) :
    Calls Tryz.prog 21 #[.pointer (some ⟨R, 0, none⟩), .slice a.A a.m a.c] w fun e w' => e = .returned (.int .i64 (anE d x (recF a))) ∧ Bx (SP W p r P R d2 (anS d x (recF a)) x2 (anW d x (recF a))) W w' B a := by
  obtain ⟨h1, h2, h3, h4⟩ := recF_in (B := B) hok hsm h.1.low
  have := recF_len a
  have hG := hp.G
  have hK := hp.K
  have hl := hp.sm.len
  have ha := anB_len (recF a)
  exact h.call (Q := fun e => e = .returned (.int .i64 (anE d x (recF a)))) fun h0 => Pw.ranew h0 h1 (recF_len a) (by omega) (fun q hq => by have := h4 q hq; omega) (by omega) (by omega) (fun h1 h2 => h1 (hp.zero h2)) (by omega) (by omega) (hp.old (by omega))
end
/-- What holds at a round's head. -/
def Sw (W w : World) (p r m : Nat) (wv xv : Value) : Prop :=
  (wv = .pointer none ∧ xv = .pointer none ∧ ∃ d, Sm m d.l ∧ Up d.l ∧ Lb W (fun k => k < W.heap.size) w p d r d) ∨
  ∃ d x P R, wv = .pointer (some ⟨P, 0, none⟩) ∧ xv = .pointer (some ⟨R, 0, none⟩) ∧ Pi m d x ∧ Pw (fun k => k < W.heap.size) W w p r P R d d x x
section
variable {W w w' : World} {p r m : Nat} {wv xv : Value}
theorem Sw.low (h : Sw W w p r m wv xv) : Below W.heap.size W w := by
  rcases h with ⟨_, _, d, _, _, h⟩ | ⟨d, x, P, R, _, _, _, h⟩
  · exact h.low
  · exact h.low
theorem Sw.below (h : Sw W w p r m wv xv) (hb : Below w.heap.size w w') : Sw W w' p r m wv xv := by
  rcases h with ⟨e1, e2, d, h1, h2, h⟩ | ⟨d, x, P, R, e1, e2, h1, h⟩
  · exact .inl ⟨e1, e2, d, h1, h2, h.below hb⟩
  · exact .inr ⟨d, x, P, R, e1, e2, h1, h.below hb⟩
theorem Sw.wider (h : Sw W w p r m wv xv) : Sw W w p r (m + 1) wv xv := by
  rcases h with ⟨e1, e2, d, h1, h2, h⟩ | ⟨d, x, P, R, e1, e2, h1, h⟩
  · exact .inl ⟨e1, e2, d, h1.wider (by omega), h2, h⟩
  · exact .inr ⟨d, x, P, R, e1, e2, h1.wider, h⟩
theorem Lb.alike {Y : Nat → Prop} {d d2 : DS} (h : Lb W Y w p d r d2) (hl : d2.l.length ≤ 100) (hs : d2.l = d.l) : Calls Tryz.prog 27 #[.pointer (some ⟨p, 0, none⟩), .pointer (some ⟨r, 0, none⟩)] w fun e w' => e = .returned (.bool true) ∧ Below w.heap.size w w' := by
  obtain ⟨_, ⟨T, h1, h2, h3⟩, _⟩ := h
  exact alike_any h3 h1 hl hs
theorem Sw.alike (h : Sw W w p r m wv xv) (hm : m ≤ 60) : Calls Tryz.prog 27 #[.pointer (some ⟨p, 0, none⟩), .pointer (some ⟨r, 0, none⟩)] w fun e w' => e = .returned (.bool true) ∧ Sw W w' p r m wv xv := by
  have H := h
  rcases h with ⟨_, _, d, h1, _, h⟩ | ⟨d, x, P, R, _, _, h1, h⟩
  · exact (h.alike (by have := h1.len; omega) rfl).mono fun e w' ⟨h1, h2⟩ => ⟨h1, H.below h2⟩
  · exact (h.drop.alike (by have := h1.sm.len; omega) rfl).mono fun e w' ⟨h1, h2⟩ => ⟨h1, H.below h2⟩
theorem both_new {W w1 w2 : World} {p : Nat} {q : Int} (h1 : Dq (fun k => k < W.heap.size) w1 p (newS q)) (hb1 : Below W.heap.size W w1) (h2 : Rk (fun k => k = w1.heap.size) w2 w1.heap.size (newS q)) (hb2 : Below w1.heap.size w1 w2) :
    Lb W (fun k => k < W.heap.size) w2 p (newS q) w1.heap.size (newS q) := by
  have hs := hb1.size
  have hl := h2.lt w1.heap.size rfl
  exact ⟨kept_trans hb1 hb2, ⟨_, h2, fun k hk x => by have e : k = w1.heap.size := hk; have x2 : k < W.heap.size := x; omega, h1.more hb2 fun k hk => hk.imp id fun e => by have e2 : k = w1.heap.size := e; omega⟩, fun _ hk => hk⟩
theorem sm_new (q : Int) : Sm 1 (newS q).l := ⟨Nat.zero_le _, fun f hf => by cases hf⟩
theorem Lb.popen0 {Y : Nat → Prop} {q : Int} {d' : DS} (h : Lb W Y w p (newS q) r d') :
    Calls Tryz.prog 11 #[.pointer (some ⟨p, 0, none⟩)] w fun e w' => ∃ P A c, e = .returned (.tuple #[.pointer (some ⟨P, 0, none⟩), .slice A 0 c, .int .i64 0]) ∧ Mw Y W w' p r P (newS q) d' ⟨0, 0, false⟩ A c [] ∧ Kx Y w w' := by
  obtain ⟨e1, e2, e3, e4, e5⟩ := op_empty q
  have := h.popen (sm_new q) (by omega) e1
  rw [e2, e3, e4, e5] at this
  exact this
theorem Mw.ropen0 {Y : Nat → Prop} {q : Int} {P : Nat} {x : WS} {A : Option Addr} {c : Nat} {L : List (List Int)} {d : DS} (h : Mw Y W w p r P d (newS q) x A c L) :
    Calls Tryz.prog 18 #[.pointer (some ⟨r, 0, none⟩)] w fun e w' => ∃ R A2 c2, e = .returned (.tuple #[.pointer (some ⟨R, 0, none⟩), .slice A2 0 c2, .int .i64 0]) ∧ Pw Y W w' p r P R d (newS q) x ⟨0, 0, false⟩ := by
  obtain ⟨e1, e2, e3, e4, e5⟩ := op_empty q
  have := h.ropen (sm_new q) (by omega) e1
  rw [e2, e3, e4, e5] at this
  exact this.mono fun e w' ⟨R, A2, c2, h1, h2, _⟩ => ⟨R, A2, c2, h1, h2⟩
theorem pi_new (q : Int) : Pi 1 (newS q) ⟨0, 0, false⟩ := ⟨sm_new q, List.Pairwise.nil, Nat.zero_le _, Nat.zero_le _, fun h => absurd rfl h, fun _ => rfl, fun _ a h => absurd rfl h, fun _ k h1 h2 => by have h2 : k ≤ 0 := h2; omega⟩
theorem LasIn.at' {A : Option Addr} {n c : Nat} {it : Nat → La} {j : Nat} (h : LasIn W A n c it) (hb : Below W.heap.size W w) (hj : j < n) : ∃ b off, A = some ⟨b, off, none⟩ ∧ LaAt w b off j (it j) ∧ LaOk W (it j) := by
  obtain ⟨b, off, e, hl, h1, h2⟩ := h.at_ j hj
  exact ⟨b, off, e, h1.below hb hl, h2⟩
/-- light, of a call that lies in memory. -/
theorem lightq {a : La} (hok : LaOk W a) (hb : Below W.heap.size W w) : Calls Tryz.prog 19 #[.agg #[.int .i64 a.k, .int .i64 a.n, .slice a.A a.m a.c, .slice a.p.A a.p.n a.p.c]] w fun e w' => ∃ t, e = .returned (.bool t) ∧ (t = true → smL a.it a.m ≤ 9000 ∧ a.p.n ≤ 20) ∧ Below w.heap.size w w' :=
  light_any a.k a.n hok.r hb (by have := hok.p.le; have := hok.p.room; omega)
end
section
variable {W w w' : World} {B p r P R m : Nat} {a : La} {d d2 : DS} {x x2 : WS}
theorem Bx.lowP (h : Bx (SP W p r P R d d2 x x2) W w B a) : Below W.heap.size W w := h.1.low
theorem Bx.lowL (h : Bx (SL W p r d d2) W w B a) : Below W.heap.size W w := Lb.low h.1
theorem Bx.drewP (h : Bx (SP W p r P R d d2 x x2) W w B a) : Bx (SP W p r P R d d2 x x2) W w.drew B a := h.belowP (kept_drewN (kept_refl w) 1)
theorem Bx.swL (h : Bx (SL W p r d d) W w B a) (hs : Sm m d.l) (hu : Up d.l) : Sw W w p r (m + 1) (.pointer none) (.pointer none) := .inl ⟨rfl, rfl, d, hs.wider (by omega), hu, h.lb⟩
theorem Bx.swLn (h : Bx (SL W p r d d) W w B a) (hs : Sm m d.l) (hu : Up d.l) (n : Nat) : Sw W (w.drewN n) p r (m + 1) (.pointer none) (.pointer none) := (h.belowL (kept_drewN (kept_refl w) n)).swL hs hu
theorem Bx.swP (h : Bx (SP W p r P R d d x x) W w B a) (hp : Pi m d x) : Sw W w p r m (.pointer (some ⟨P, 0, none⟩)) (.pointer (some ⟨R, 0, none⟩)) := .inr ⟨d, x, P, R, rfl, rfl, hp, h.pw⟩
theorem Bx.parmP (h : Bx (SP W p r P R d d2 x x2) W w B a) (hn : -9223372036854775808 ≤ a.n ∧ a.n ≤ 9223372036854775807) :
    Calls Tryz.prog 22 #[.pointer (some ⟨p, 0, none⟩), .int .i64 a.n] w fun e w' => e = .returned (.tuple #[]) ∧ Bx (SP W p r P R (armS d a.n) d2 x x2) W w' B a := h.call (Q := fun e => e = .returned (.tuple #[])) fun h0 => Pw.parm h0 hn
theorem Bx.rarmP (h : Bx (SP W p r P R d d2 x x2) W w B a) (hn : -9223372036854775808 ≤ a.n ∧ a.n ≤ 9223372036854775807) :
    Calls Tryz.prog 23 #[.pointer (some ⟨r, 0, none⟩), .int .i64 a.n] w fun e w' => e = .returned (.tuple #[]) ∧ Bx (SP W p r P R d (armS d2 a.n) x x2) W w' B a := h.call (Q := fun e => e = .returned (.tuple #[])) fun h0 => Pw.rarm h0 hn
theorem Bx.parmL (h : Bx (SL W p r d d2) W w B a) (hn : -9223372036854775808 ≤ a.n ∧ a.n ≤ 9223372036854775807) :
    Calls Tryz.prog 22 #[.pointer (some ⟨p, 0, none⟩), .int .i64 a.n] w fun e w' => e = .returned (.tuple #[]) ∧ Bx (SL W p r (armS d a.n) d2) W w' B a := h.call (Q := fun e => e = .returned (.tuple #[])) fun h0 => Lb.parm h0 hn
theorem Bx.rarmL (h : Bx (SL W p r d d2) W w B a) (hn : -9223372036854775808 ≤ a.n ∧ a.n ≤ 9223372036854775807) :
    Calls Tryz.prog 23 #[.pointer (some ⟨r, 0, none⟩), .int .i64 a.n] w fun e w' => e = .returned (.tuple #[]) ∧ Bx (SL W p r d (armS d2 a.n)) W w' B a := h.call (Q := fun e => e = .returned (.tuple #[])) fun h0 => Lb.rarm h0 hn
theorem Bx.pcraL (h : Bx (SL W p r d d2) W w B a) (hok : LaOk W a) (hn : a.p.n ≤ 20) (hl : d.l.length ≤ 1000000) :
    Calls Tryz.prog 24 #[.pointer (some ⟨p, 0, none⟩), .slice a.p.A a.p.n a.p.c] w fun e w' => e = .returned (.tuple #[]) ∧ Bx (SL W p r (craS d a.p.zs) d2) W w' B a := h.call (Q := fun e => e = .returned (.tuple #[])) fun h0 => Lb.pcra h0 hl hok.p hn
theorem Bx.rcraL (h : Bx (SL W p r d d2) W w B a) (hok : LaOk W a) (hn : a.p.n ≤ 20) (hl : d2.l.length ≤ 1000000) :
    Calls Tryz.prog 25 #[.pointer (some ⟨r, 0, none⟩), .slice a.p.A a.p.n a.p.c] w fun e w' => e = .returned (.tuple #[]) ∧ Bx (SL W p r d (craS d2 a.p.zs)) W w' B a := h.call (Q := fun e => e = .returned (.tuple #[])) fun h0 => Lb.rcra h0 hl hok.p hn
/-- Both Open, and what they answer is the same. -/
theorem Lb.okL {Y : Nat → Prop} (h : Lb W Y w p d r d2) : DOk d2 := by
  obtain ⟨_, ⟨T, h1, _⟩, _⟩ := h
  exact h1.ok
def Tw9 (W w : World) (p r m P R : Nat) (A A2 : Option Addr) (n c c2 : Nat) : Prop := Sw W w p r m (.pointer (some ⟨P, 0, none⟩)) (.pointer (some ⟨R, 0, none⟩)) ∧ ∃ (L : List (List Int)) (Z Z2 : Nat → Prop), L.length = n ∧ n ≤ 200000000 ∧ (∀ q, q ∈ L → q.length ≤ 16384) ∧ Recs Z w A c L ∧ Recs Z2 w A2 c2 L
theorem Tw9.drewN {A A2 : Option Addr} {n c c2 : Nat} (h : Tw9 W w p r m P R A A2 n c c2) (k : Nat) : Tw9 W (w.drewN k) p r m P R A A2 n c c2 := by
  obtain ⟨h0, L, Z, Z2, h1, h2, h3, h4, h5⟩ := h
  exact ⟨h0.below (kept_drewN (kept_refl w) k), L, Z, Z2, h1, h2, h3, h4.below (kept_drewN (kept_refl w) k), h5.below (kept_drewN (kept_refl w) k)⟩
theorem lists_nil (w : World) (q : Nat) : Calls Tryz.prog 26 #[.slice none 0 0, .slice none 0 0] (w.drewN q) fun e w'' => e = .returned (.bool true) ∧ ∃ k, w'' = w.drewN k :=
  (lists_big (recs0 (fun _ => False) (w.drewN q)) (recs0 (fun _ => False) (w.drewN q)) rfl rfl (Nat.zero_le _) (Nat.zero_le _) (fun q hq => by cases hq) (fun q hq => by cases hq)).mono fun e w' ⟨h1, k, h2⟩ => ⟨h1, q + k, by rw [h2]; exact World.drewN_drewN _ _ _⟩
theorem Tw9.lists {A A2 : Option Addr} {n c c2 : Nat} (h : Tw9 W w p r m P R A A2 n c c2) (q : Nat) : Calls Tryz.prog 26 #[.slice A n c, .slice A2 n c2] (w.drewN q) fun e w'' => e = .returned (.bool true) ∧ ∃ k, w'' = w.drewN k := by
  obtain ⟨_, L, Z, Z2, h1, h2, h3, h4, h5⟩ := h.drewN q
  refine (lists_big h4 h5 h1 h1 (by omega) (by omega) (fun q hq => by have := h3 q hq; omega) (fun q hq => by have := h3 q hq; omega)).mono fun e w' ⟨h1, k, h2⟩ => ⟨?_, q + k, by rw [h2]; exact World.drewN_drewN _ _ _⟩
  rw [h1, decide_eq_true rfl]
theorem lists_nil0 (w : World) : Calls Tryz.prog 26 #[.slice none 0 0, .slice none 0 0] w fun e w'' => e = .returned (.bool true) ∧ ∃ k, w'' = w.drewN k := lists_nil w 0
theorem Tw9.lists0 {A A2 : Option Addr} {n c c2 : Nat} (h : Tw9 W w p r m P R A A2 n c c2) : Calls Tryz.prog 26 #[.slice A n c, .slice A2 n c2] w fun e w'' => e = .returned (.bool true) ∧ ∃ k, w'' = w.drewN k := h.lists 0
theorem Tw9.drew {A A2 : Option Addr} {n c c2 : Nat} (h : Tw9 W w p r m P R A A2 n c c2) : Tw9 W w.drew p r m P R A A2 n c c2 := h.drewN 1
theorem drews (w : World) (k : Nat) : w.drew.drewN k = w.drewN (1 + k) := World.drewN_drewN w 1 k
theorem Bx.openE1 (h : Bx (SL W p r d d) W w B a) (hs : Sm m d.l) (hm : m ≤ 60) (hE : opE d ≠ 0) :
    Calls Tryz.prog 11 #[.pointer (some ⟨p, 0, none⟩)] w fun e w' => e = .returned (.tuple #[.pointer none, .slice none 0 0, .int .i64 (opE d)]) ∧ Lb W (fun k => k < W.heap.size) w' p (opS d) r d :=
  (h.lb.popenE hs hm hE).mono fun _ _ ⟨h1, h2, _⟩ => ⟨h1, h2⟩
theorem openE2 (h : Lb W (fun k => k < W.heap.size) w p (opS d) r d) (hs : Sm m d.l) (hu : Up d.l) (hm : m ≤ 60) (hE : opE d ≠ 0) :
    Calls Tryz.prog 18 #[.pointer (some ⟨r, 0, none⟩)] w fun e w' => e = .returned (.tuple #[.pointer none, .slice none 0 0, .int .i64 (opE d)]) ∧ ∀ k, Sw W (w'.drewN k) p r (m + 1) (.pointer none) (.pointer none) :=
  (h.ropenE hs hm hE).mono fun _ w' ⟨h1, h2, _⟩ => ⟨h1, fun k => .inl ⟨rfl, rfl, opS d, (hs.sub hu (up_op hu).1 (up_op hu).2.2).wider (by omega), (up_op hu).1, h2.below (kept_drewN (kept_refl w') k)⟩⟩
theorem Bx.open1 (h : Bx (SL W p r d d) W w B a) (hs : Sm m d.l) (hm : m ≤ 60) (hE : opE d = 0) :
    Calls Tryz.prog 11 #[.pointer (some ⟨p, 0, none⟩)] w fun e w' => ∃ P A c, e = .returned (.tuple #[.pointer (some ⟨P, 0, none⟩), .slice A (opL d).length c, .int .i64 0]) ∧ Mw (fun k => k < W.heap.size) W w' p r P (opS d) d ⟨opG d, (opZ d).k, false⟩ A c (opL d) :=
  (h.lb.popen hs hm hE).mono fun _ _ ⟨P, A, c, h1, h2, _⟩ => ⟨P, A, c, h1, h2⟩
theorem open2 {A : Option Addr} {c : Nat} (h : Mw (fun k => k < W.heap.size) W w p r P (opS d) d ⟨opG d, (opZ d).k, false⟩ A c (opL d)) (hs : Sm m d.l) (hu : Up d.l) (hm : m ≤ 60) (hE : opE d = 0) :
    Calls Tryz.prog 18 #[.pointer (some ⟨r, 0, none⟩)] w fun e w' => ∃ R A2 c2, e = .returned (.tuple #[.pointer (some ⟨R, 0, none⟩), .slice A2 (opL d).length c2, .int .i64 0]) ∧ Tw9 W w' p r (m + 1) P R A A2 (opL d).length c c2 := by
  have hok : DOk d := by obtain ⟨_, _, T, Z, h1, _⟩ := h; exact h1.ok
  exact (h.ropen hs hm hE).mono fun _ w' ⟨R, A2, c2, h1, h2, _, ⟨Z, h4⟩, ⟨Z2, h5⟩⟩ => ⟨R, A2, c2, h1, .inr ⟨_, _, P, R, rfl, rfl, (Pi.open hs hu hm hE).wider, h2⟩, opL d, Z, Z2, rfl, opL_len hok (by have := hs.len; omega), fun q hq => (opL_oct hok q hq).2, h4, h5⟩
theorem Bx.upL (h : Bx (SL W p r d d2) W w B a) : Up d2.l := (Lb.okL h.1).up
end
end Go.Proofs.YtkmcnhjfnjikaaaGreatDoor
