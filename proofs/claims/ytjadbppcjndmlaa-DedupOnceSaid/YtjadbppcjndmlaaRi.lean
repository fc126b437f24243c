/- What package kv's may and Right come to. Conditions: the list lies in memory, its length has room. -/
import Derived.Test.YtjadbppcjndmlaaKw
import Derived.Deep.DeepCutAuto
import Derived.Test.YtjadbppcjndmlaaSp
namespace Go.Proofs.Ytjadbppcjndmlaa
open Go.RowKit
theorem may_any (k v : ByteArray) (n : Int) (w : World) :
    Calls Try.prog 27 #[.agg #[.string k, .string v, .int .i64 n]] w fun e w' => e = .returned (.bool (mayB ⟨k, v, n⟩)) ∧ Below w.heap.size w w' := by
  cases h1 : nilB k
  all_goals
    obtain ⟨t1, ht1⟩ : ∃ t, decide ((k.size : Int) ≤ 16) = t := ⟨_, rfl⟩
    obtain ⟨t2, ht2⟩ : ∃ t, decide ((v.size : Int) ≤ 64) = t := ⟨_, rfl⟩
    obtain ⟨t3, ht3⟩ : ∃ t, decide (1 ≤ n) = t := ⟨_, rfl⟩
    have e : mayB ⟨k, v, n⟩ = (!nilB k && (t1 && (t2 && t3))) := by unfold mayB; subst ht1 ht2 ht3; norm_cast
    rw [e, h1]
    unfold nilB at h1
    clear e
    cases t1 <;> cases t2 <;> cases t3
    all_goals
      go_enter Try.func27, Try.ntmps27
      go_wp2
      go_ret
      exact ⟨rfl, (Below.refl _ _).alloc (Nat.le_refl _) _⟩
theorem le_not (a b : ByteArray) : (Op.bytesLess a.toList b.toList || a.toList == b.toList) = !ltB b a := by
  have e : (Op.bytesLess a.toList b.toList || a.toList == b.toList) = (ltB a b || eqB a b) := rfl
  rw [e]
  cases h1 : ltB b a
  · cases h2 : ltB a b
    · have := lt_or h1 h2
      subst this
      have : eqB b b = true := (eq_iff _ _).2 rfl
      simp [this]
    · rfl
  · cases h2 : ltB a b
    · cases h3 : eqB a b
      · rfl
      · have := (eq_iff _ _).1 h3
        subst this
        rw [lt_self] at h1; cases h1
    · have := lt_trans h1 h2
      rw [lt_self] at this; cases this
theorem ok_zero {l : List Pr} {p : Pr} (hp : l[0]? = some p) : okAt l 0 = mayB p := by unfold okAt; rw [hp]; simp
theorem ok_next {l : List Pr} {k : Nat} {p q : Pr} (hp : l[k + 1]? = some p) (hq : l[k]? = some q) : okAt l (k + 1) = (mayB p && ltB q.k p.k) := by
  unfold okAt; rw [hp, Nat.add_sub_cancel, hq]
  have : ((k + 1 : Nat) == 0) = false := by simp
  simp only [this, Bool.false_or]
theorem ok_grow {l : List Pr} {k : Nat} (h : ∀ j, j < k → okAt l j = true) (hk : okAt l k = true) : ∀ j, j < k + 1 → okAt l j = true := fun j hj => by
  rcases Nat.lt_or_ge j k with h1 | h1
  · exact h j h1
  · obtain rfl : j = k := by omega
    exact hk
theorem right_not {l : List Pr} {k : Nat} (hk : k < l.length) (h : okAt l k = false) : rightB l = false := right_false fun hr => by
  have := hr.2 k hk; rw [h] at this; cases this
/-- A pair in a block of its own, and a text elsewhere. -/
structure Rp (W w : World) (g : Nat) (p : Pr) (b x : Nat) (q : ByteArray) : Prop where
  c0 : w.cell? ⟨g, 0, none⟩ = some (.string p.k)
  c1 : w.cell? ⟨g, 1, none⟩ = some (.string p.v)
  c2 : w.cell? ⟨g, 2, none⟩ = some (.int .i64 p.n)
  d : w.cell? ⟨b, x, none⟩ = some (.string q)
  lg : g < w.heap.size
  lb : b < w.heap.size
  old : Below W.heap.size W w
theorem Rp.drew {W w : World} {g : Nat} {p : Pr} {b x : Nat} {q : ByteArray} (h : Rp W w g p b x q) : Rp W w.drew g p b x q := ⟨h.c0, h.c1, h.c2, h.d, h.lg, h.lb, h.old.drew⟩
theorem Rp.step {W w w' : World} {g : Nat} {p : Pr} {b x : Nat} {q : ByteArray} (h : Rp W w g p b x q) (hb : Below w.heap.size w w') : Rp W w' g p b x q :=
  ⟨(hb.cell (p := ⟨g, 0, none⟩) h.lg).trans h.c0, (hb.cell (p := ⟨g, 1, none⟩) h.lg).trans h.c1, (hb.cell (p := ⟨g, 2, none⟩) h.lg).trans h.c2, (hb.cell (p := ⟨b, x, none⟩) h.lb).trans h.d, Nat.lt_of_lt_of_le h.lg hb.size, Nat.lt_of_lt_of_le h.lb hb.size, h.old.trans (hb.mono h.old.size)⟩
theorem Rp.call {P : Program} {F : FuncId} {args : Array Value} {v : Value} {W w : World} {g : Nat} {p : Pr} {b x : Nat} {q : ByteArray} (h : Rp W w g p b x q) (hf : Calls P F args w fun e w' => e = .returned v ∧ Below w.heap.size w w') :
    Calls P F args w fun e w' => e = .returned v ∧ w'.cell? ⟨g, 0, none⟩ = some (.string p.k) ∧ w'.cell? ⟨g, 1, none⟩ = some (.string p.v) ∧ w'.cell? ⟨g, 2, none⟩ = some (.int .i64 p.n) ∧ w'.cell? ⟨b, x, none⟩ = some (.string q) ∧ Rp W w' g p b x q :=
  hf.mono fun _ _ ⟨he, hb⟩ => have s := h.step hb; ⟨he, s.c0, s.c1, s.c2, s.d, s⟩
theorem Rp.new {W w : World} {p : Pr} {b x : Nat} {q : ByteArray} (h : Below W.heap.size W w) (hb : b < w.heap.size) (hd : w.cell? ⟨b, x, none⟩ = some (.string q)) : Rp W (w.alloc (.cells #[.string p.k, .string p.v, .int .i64 p.n] 49)) w.heap.size p b x q := by
  have R := Row.new w 49 #[.string p.k, .string p.v, .int .i64 p.n]
  have hk := kept_alloc (kept_refl w) (.cells #[.string p.k, .string p.v, .int .i64 p.n] 49)
  exact ⟨R.cell 0, R.cell 1, R.cell 2, (hk.cell (p := ⟨b, x, none⟩) hb).trans hd, R.lt, Nat.lt_of_lt_of_le hb hk.size, h.trans (hk.mono h.size)⟩
set_option maxRecDepth 100000 in
set_option maxHeartbeats 2000000 in
theorem right_any (v : Value) (l : List Pr) (w : World) (h : Pin w v l) (ln : l.length ≤ 4611686018427387904) :
    Calls Try.prog 26 #[v] w fun e w' => e = .returned (.bool (rightB l)) ∧ Below w.heap.size w w' := by
  obtain ⟨A, c, rfl, hA, hc, hcc, hl⟩ := h
  have HL := hide hl
  clear hl
  by_cases hf : 32 < l.length
  · have e : rightB l = false := right_false fun hr => by have := hr.1; omega
    rw [e]
    go_enter Try.func26, Try.ntmps26
    go_wp2
    go_ret
    exact ⟨rfl, Below.refl _ _⟩
  · go_enter Try.func26, Try.ntmps26
    go_wp2
    go_loopw [10] (fun i wr => ∃ k : Nat, k ≤ l.length ∧ i = .int .i64 k ∧ Hid (∀ j, j < k → okAt l j = true) ∧ Hid (Below w.heap.size w wr)) (fun i _ => l.length - (intOf i).toNat)
    case atStart => exact ⟨0, by omega, rfl, fun j hj => absurd hj (by omega), Below.refl _ _⟩
    case round =>
      obtain ⟨k, hk, rfl, hs, hb⟩ := hrel
      by_cases hlt : k < l.length
      · obtain ⟨p, hp⟩ : ∃ p, l[k]? = some p := ⟨_, List.getElem?_eq_getElem hlt⟩
        have HLr := hide (HL.out.below hb.out)
        obtain ⟨b, o, rfl, hbs, c0, c1, c2⟩ := HLr.out.at_ hp
        have HP := hide hp
        clear hp
        have HM := hide (fun w1 => may_any p.k p.v p.n w1)
        cases hm : mayB p
        · have hm' : mayB ⟨p.k, p.v, p.n⟩ = false := hm
          rw [hm'] at HM
          have HE : Hid (rightB l = false) := hide (right_not hlt (by
            cases k with
            | zero => rw [ok_zero HP.out]; exact hm
            | succ j =>
              obtain ⟨q, hq⟩ : ∃ q, l[j]? = some q := ⟨_, List.getElem?_eq_getElem (by omega)⟩
              rw [ok_next HP.out hq, hm]; rfl))
          clear hm hm' hs
          go_upto_region 6 with (fail)
          have st := Rp.new (p := p) hb.out hbs c0
          obtain ⟨g, hg⟩ : ∃ g, wr.heap.size = g := ⟨_, rfl⟩
          rw [hg] at st ⊢
          generalize wr.alloc (.cells #[.string p.k, .string p.v, .int .i64 p.n] 49) = w2 at st ⊢
          refine wp_region_sp (fun w' => Rp w w' g p b (o + k * 3) p.k) (by kernel_rfl) (by kernel_rfl) st.drew ?_
          generalize hS : (fun w' => Rp w w' g p b (o + k * 3) p.k) = S
          have l0 : ∀ s : Sp S, s.w.cell? ⟨g, 0, none⟩ = some (.string p.k) := by subst hS; exact fun s => s.ok.c0
          have l1 : ∀ s : Sp S, s.w.cell? ⟨g, 1, none⟩ = some (.string p.v) := by subst hS; exact fun s => s.ok.c1
          have l2 : ∀ s : Sp S, s.w.cell? ⟨g, 2, none⟩ = some (.int .i64 p.n) := by subst hS; exact fun s => s.ok.c2
          have l3 : ∀ s : Sp S, s.w.cell? ⟨b, o + k * 3, none⟩ = some (.string p.k) := by subst hS; exact fun s => s.ok.d
          have ne : Nonempty (Sp S) := by subst hS; exact ⟨⟨_, st⟩⟩
          have STEP := hide (show ∀ w w', S w → Below w.heap.size w w' → S w' by subst hS; exact fun _ _ h hb => h.step hb)
          have OLD := hide (show ∀ s : Sp S, Below w.heap.size w s.w by subst hS; exact fun s => s.ok.old)
          clear c0 c1 c2 hg HLr hb hbs
          clear st hS
          repeat (go_big_quiet_step ((first | (go_at_call 27; with_reducible exact sp_call STEP.out _ (HM.out _)))))
          refine wpQuiet_nil ?_
          intro kk
          have OK := hide (OLD.out kk)
          generalize kk.w = wk at OK ⊢
          clear l0 l1 l2 l3 ne OLD STEP
          go_wp2
          go_ret
          exact ⟨by rw [HE.out]; rfl, OK.out⟩
        · have hm' : mayB ⟨p.k, p.v, p.n⟩ = true := hm
          rw [hm'] at HM
          clear hm'
          rcases Nat.eq_zero_or_pos k with h0 | h0
          · subst h0
            have HE := hide (ok_grow hs.out (by rw [ok_zero HP.out]; exact hm))
            rw [Nat.zero_mul, Nat.add_zero] at c0 c1 c2
            clear hm hs
            go_upto_region 6 with (fail)
            have st := Rp.new (p := p) hb.out hbs c0
            obtain ⟨g, hg⟩ : ∃ g, wr.heap.size = g := ⟨_, rfl⟩
            rw [hg] at st ⊢
            generalize wr.alloc (.cells #[.string p.k, .string p.v, .int .i64 p.n] 49) = w2 at st ⊢
            refine wp_region_sp (fun w' => Rp w w' g p b (o) p.k) (by kernel_rfl) (by kernel_rfl) st.drew ?_
            generalize hS : (fun w' => Rp w w' g p b (o) p.k) = S
            have l0 : ∀ s : Sp S, s.w.cell? ⟨g, 0, none⟩ = some (.string p.k) := by subst hS; exact fun s => s.ok.c0
            have l1 : ∀ s : Sp S, s.w.cell? ⟨g, 1, none⟩ = some (.string p.v) := by subst hS; exact fun s => s.ok.c1
            have l2 : ∀ s : Sp S, s.w.cell? ⟨g, 2, none⟩ = some (.int .i64 p.n) := by subst hS; exact fun s => s.ok.c2
            have l3 : ∀ s : Sp S, s.w.cell? ⟨b, o, none⟩ = some (.string p.k) := by subst hS; exact fun s => s.ok.d
            have ne : Nonempty (Sp S) := by subst hS; exact ⟨⟨_, st⟩⟩
            have STEP := hide (show ∀ w w', S w → Below w.heap.size w w' → S w' by subst hS; exact fun _ _ h hb => h.step hb)
            have OLD := hide (show ∀ s : Sp S, Below w.heap.size w s.w by subst hS; exact fun s => s.ok.old)
            clear c0 c1 c2 hg HLr hb hbs
            clear st hS
            repeat (go_big_quiet_step ((first | (go_at_call 27; with_reducible exact sp_call STEP.out _ (HM.out _)))))
            refine wpQuiet_nil ?_
            intro kk
            have OK := hide (OLD.out kk)
            generalize kk.w = wk at OK ⊢
            clear l0 l1 l2 l3 ne OLD STEP
            go_wp2
            go_roundw
            case rel => exact ⟨0 + 1, by omega, by go_num, HE, OK⟩
            case measure => simp [intOf]; omega
          · obtain ⟨j, rfl⟩ : ∃ j, k = j + 1 := ⟨k - 1, by omega⟩
            obtain ⟨q, hq⟩ : ∃ q, l[j]? = some q := ⟨_, List.getElem?_eq_getElem (by omega)⟩
            obtain ⟨b', o', e', _, d0, _, _⟩ := HLr.out.at_ hq
            cases e'
            obtain ⟨k, hk1⟩ : ∃ k, j + 1 = k := ⟨_, rfl⟩
            have hkw : IntKind.i64.wrap ((k : Int) - 1) = (j : Int) := by rw [IntKind.wrap_i64]; omega
            have hk0 : decide (0 < (k : Int)) = true := decide_eq_true (by omega)
            have hkn : decide (0 < k) = true := decide_eq_true (by omega)
            have hjl : j < l.length := by omega
            have hle := le_not p.k q.k
            cases ht : ltB q.k p.k
            · have HE : Hid (rightB l = false) := hide (right_not hlt (by rw [ok_next HP.out hq, hm, ht]; rfl))
              rw [ht] at hle
              rw [hk1] at hlt hk c0 c1 c2 ⊢
              clear hm hs hq ht HP
              go_upto_region 6 with (fail)
              have st := Rp.new (p := p) hb.out hbs d0
              obtain ⟨g, hg⟩ : ∃ g, wr.heap.size = g := ⟨_, rfl⟩
              rw [hg] at st ⊢
              generalize wr.alloc (.cells #[.string p.k, .string p.v, .int .i64 p.n] 49) = w2 at st ⊢
              refine wp_region_sp (fun w' => Rp w w' g p b (o + j * 3) q.k) (by kernel_rfl) (by kernel_rfl) st.drew ?_
              generalize hS : (fun w' => Rp w w' g p b (o + j * 3) q.k) = S
              have l0 : ∀ s : Sp S, s.w.cell? ⟨g, 0, none⟩ = some (.string p.k) := by subst hS; exact fun s => s.ok.c0
              have l1 : ∀ s : Sp S, s.w.cell? ⟨g, 1, none⟩ = some (.string p.v) := by subst hS; exact fun s => s.ok.c1
              have l2 : ∀ s : Sp S, s.w.cell? ⟨g, 2, none⟩ = some (.int .i64 p.n) := by subst hS; exact fun s => s.ok.c2
              have l3 : ∀ s : Sp S, s.w.cell? ⟨b, o + j * 3, none⟩ = some (.string q.k) := by subst hS; exact fun s => s.ok.d
              have ne : Nonempty (Sp S) := by subst hS; exact ⟨⟨_, st⟩⟩
              have STEP := hide (show ∀ w w', S w → Below w.heap.size w w' → S w' by subst hS; exact fun _ _ h hb => h.step hb)
              have OLD := hide (show ∀ s : Sp S, Below w.heap.size w s.w by subst hS; exact fun s => s.ok.old)
              clear c0 c1 c2 hg HLr hb hbs
              clear st hS
              repeat (go_big_quiet_step ((first | (go_at_call 27; with_reducible exact sp_call STEP.out _ (HM.out _)))))
              refine wpQuiet_nil ?_
              intro kk
              have OK := hide (OLD.out kk)
              generalize kk.w = wk at OK ⊢
              clear l0 l1 l2 l3 ne OLD STEP
              go_wp2
              go_ret
              exact ⟨by rw [HE.out]; rfl, OK.out⟩
            · have HE := hide (ok_grow hs.out (by rw [ok_next HP.out hq, hm, ht]; rfl))
              rw [hk1] at HE
              rw [ht] at hle
              rw [hk1] at hlt hk c0 c1 c2 ⊢
              clear hm hs hq ht HP
              go_upto_region 6 with (fail)
              have st := Rp.new (p := p) hb.out hbs d0
              obtain ⟨g, hg⟩ : ∃ g, wr.heap.size = g := ⟨_, rfl⟩
              rw [hg] at st ⊢
              generalize wr.alloc (.cells #[.string p.k, .string p.v, .int .i64 p.n] 49) = w2 at st ⊢
              refine wp_region_sp (fun w' => Rp w w' g p b (o + j * 3) q.k) (by kernel_rfl) (by kernel_rfl) st.drew ?_
              generalize hS : (fun w' => Rp w w' g p b (o + j * 3) q.k) = S
              have l0 : ∀ s : Sp S, s.w.cell? ⟨g, 0, none⟩ = some (.string p.k) := by subst hS; exact fun s => s.ok.c0
              have l1 : ∀ s : Sp S, s.w.cell? ⟨g, 1, none⟩ = some (.string p.v) := by subst hS; exact fun s => s.ok.c1
              have l2 : ∀ s : Sp S, s.w.cell? ⟨g, 2, none⟩ = some (.int .i64 p.n) := by subst hS; exact fun s => s.ok.c2
              have l3 : ∀ s : Sp S, s.w.cell? ⟨b, o + j * 3, none⟩ = some (.string q.k) := by subst hS; exact fun s => s.ok.d
              have ne : Nonempty (Sp S) := by subst hS; exact ⟨⟨_, st⟩⟩
              have STEP := hide (show ∀ w w', S w → Below w.heap.size w w' → S w' by subst hS; exact fun _ _ h hb => h.step hb)
              have OLD := hide (show ∀ s : Sp S, Below w.heap.size w s.w by subst hS; exact fun s => s.ok.old)
              clear c0 c1 c2 hg HLr hb hbs
              clear st hS
              repeat (go_big_quiet_step ((first | (go_at_call 27; with_reducible exact sp_call STEP.out _ (HM.out _)))))
              refine wpQuiet_nil ?_
              intro kk
              have OK := hide (OLD.out kk)
              generalize kk.w = wk at OK ⊢
              clear l0 l1 l2 l3 ne OLD STEP
              go_wp2
              go_roundw
              case rel => exact ⟨k + 1, by omega, by go_num, HE, OK⟩
              case measure => simp [intOf]; omega
      · obtain rfl : k = l.length := by omega
        have HE := hide (right_true (l := l) ⟨by omega, hs.out⟩)
        go_wp2
        go_ret
        exact ⟨by rw [HE.out]; rfl, hb.out⟩
end Go.Proofs.Ytjadbppcjndmlaa
