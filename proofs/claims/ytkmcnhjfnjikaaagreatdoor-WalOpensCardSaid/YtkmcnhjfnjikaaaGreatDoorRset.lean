/- A Wal of the document in memory; what its fits and write come to. Conditions: the disk lies in memory as it must; what is written lies apart from it. -/
import Derived.Test.YtkmcnhjfnjikaaaGreatDoorRj
namespace Go.Proofs.YtkmcnhjfnjikaaaGreatDoor
open Go.RowKit Go.Maps
/-- The Wal at R, its disk at r, behind changes, since a world w3 in which the disk owned T. -/
def Rx (T : Nat → Prop) (w3 : World) (R r : Nat) (w : World) (d : DS) (x : WS) : Prop := ∃ T', Rk T' w r d ∧ Row w R 55 (rwRow r x) ∧ ¬ T' R ∧ Own (fun k => T k ∨ k = R) w3 (fun k => T' k ∨ k = R) w
section
variable {T : Nat → Prop} {w3 w w' : World} {R r : Nat} {d d' : DS} {x : WS} {nm : ByteArray}
theorem Rx.start (h : Rk T w r d) (hr : Row w R 55 (rwRow r x)) (hn : ¬ T R) : Rx T w R r w d x := ⟨T, h, hr, hn, Own.refl _ _⟩
theorem Rx.below (h : Rx T w3 R r w d x) (hb : Below w.heap.size w w') : Rx T w3 R r w' d x := by
  obtain ⟨T', h1, h2, h3, h4⟩ := h
  exact ⟨T', h1.below hb, h2.below hb h2.lt, h3, h4.trans ⟨Turn.of_below hb, fun k hk => .inl hk⟩⟩
theorem Rx.since {w0 : World} (h : Rx T w3 R r w d x) (hb : Below w0.heap.size w0 w3) : Rx T w0 R r w d x := by
  obtain ⟨T', h1, h2, h3, h4⟩ := h
  exact ⟨T', h1, h2, h3, (⟨Turn.of_below hb, fun k hk => .inl hk⟩ : Own (fun k => T k ∨ k = R) w0 (fun k => T k ∨ k = R) w3).trans h4⟩
theorem Rx.ok (h : Rx T w3 R r w d x) : DOk d := by obtain ⟨_, h, _⟩ := h; exact h.ok
theorem Rx.row (h : Rx T w3 R r w d x) : Row w R 55 (rwRow r x) := by obtain ⟨_, _, h, _⟩ := h; exact h
theorem Rx.cells (h : Rx T w3 R r w d x) : w.cell? ⟨R, 0, none⟩ = some (.pointer (some ⟨r, 0, none⟩)) ∧ w.cell? ⟨R, 1, none⟩ = some (.int .i64 x.G) ∧ w.cell? ⟨R, 2, none⟩ = some (.int .i64 x.K) ∧ w.cell? ⟨R, 3, none⟩ = some (.bool x.bad) :=
  ⟨h.row.cell 0, h.row.cell 1, h.row.cell 2, h.row.cell 3⟩
theorem Rx.kx (h : Rx T w3 R r w d x) : Kx (fun k => ¬ T k ∧ k ≠ R) w3 w := by
  obtain ⟨_, _, _, _, h⟩ := h
  exact h.turn.mono fun k hk hn => hk.elim hn.1 hn.2
theorem Rx.call {v : Int} {f : FuncId} {args : Array Value} (h : Rx T w3 R r w d x) (hc : ∀ T', Rk T' w r d → Calls Tryz.prog f args w (Chr T' w r v d')) : Calls Tryz.prog f args w fun e w' => e = .returned (.int .i64 v) ∧ Rx T w3 R r w' d' x := by
  obtain ⟨T', h1, h2, h3, h4⟩ := h
  refine (hc T' h1).mono fun e w' ⟨he, T2, h5, h6⟩ => ⟨he, T2, h5, h2.same (h6.turn.block R h2.lt h3), fun hk => ?_, h4.trans ⟨h6.turn.mono fun k hk => .inl hk, fun k hk => ?_⟩⟩
  · rcases h6.new R hk with z | z
    · exact h3 z
    · have := h2.lt; omega
  · rcases hk with hk | hk
    · exact (h6.new k hk).imp .inl id
    · exact .inl (.inr hk)
theorem Rx.rem (h : Rx T w3 R r w d x) (hln : d.l.length ≤ 1000000) : Calls Tryz.prog 52 #[.pointer (some ⟨r, 0, none⟩), .string nm] w fun e w' => e = .returned (.int .i64 (remE d nm)) ∧ Rx T w3 R r w' (remS d nm) x :=
  h.call fun T' h1 => by obtain ⟨ho, R, A, c, hR⟩ := h1; exact rrem_any hR ho hln
theorem Rx.syn (h : Rx T w3 R r w d x) (hln : d.l.length ≤ 1000000) : Calls Tryz.prog 53 #[.pointer (some ⟨r, 0, none⟩), .string nm] w fun e w' => e = .returned (.int .i64 (synE d nm)) ∧ Rx T w3 R r w' (synS d nm) x :=
  h.call fun T' h1 => by obtain ⟨ho, R, A, c, hR⟩ := h1; exact rsync_any hR ho hln
theorem Rx.put {y : WS} (h : Rx T w3 R r w d x) (i : Nat) (u : Value) (hy : (rwRow r x).setIfInBounds i u = rwRow r y) : Rx T w3 R r (w.setCell ⟨R, i, none⟩ u) d y := by
  obtain ⟨T', h1, h2, h3, h4⟩ := h
  have hg := grown_set w ⟨R, i, none⟩ u
  refine ⟨T', h1.kept hg.size fun k hk => hg.block k (h1.lt k hk) fun e => by injection e with e; have e2 : k = R := e; exact h3 (by rw [← e2]; exact hk), by rw [← hy]; exact h2.put i u, h3, h4.trans ⟨Turn.of_grown hg fun k e => by injection e with e; exact .inr e.symm, fun k hk => .inl hk⟩⟩
theorem Rx.bad (h : Rx T w3 R r w d x) (b : Bool) : Rx T w3 R r (w.setCell ⟨R, 3, none⟩ (.bool b)) d ⟨x.G, x.K, b⟩ := h.put 3 _ rfl
theorem Rx.setK (h : Rx T w3 R r w d x) (K : Nat) : Rx T w3 R r (w.setCell ⟨R, 2, none⟩ (.int .i64 K)) d ⟨x.G, K, x.bad⟩ := h.put 2 _ rfl
theorem Rx.setG (h : Rx T w3 R r w d x) (G : Nat) : Rx T w3 R r (w.setCell ⟨R, 1, none⟩ (.int .i64 G)) d ⟨G, x.K, x.bad⟩ := h.put 1 _ rfl
theorem Rx.free (h : Rx T w3 R r w d x) (i : Nat) : w.frozen? ⟨R, i, none⟩ = false := h.row.free i
end
set_option maxRecDepth 100000 in
set_option maxHeartbeats 1000000 in
theorem fits_any {Y : Nat → Prop} {A : Option Addr} {n c : Nat} {F : List (List Int)} {w : World} (h : Recs Y w A c F) (hn : F.length = n) (hl : n ≤ 100000) (hs : ∀ p, p ∈ F → p.length ≤ 1000000) :
    Calls Tryz.prog 54 #[.slice A n c] w fun e w' => e = .returned (.bool (mayB F)) ∧ w = w' := by
  have h := hide h
  have hn' := hide hn
  go_enter Tryz.func54, Tryz.ntmps54
  go_wp2
  go_loopw [3] (fun i wr => ∃ (j : Nat), j ≤ n ∧ i = .int .i64 j ∧ wr = w ∧ Hid (mayB (F.take j) = true)) (fun i _ => n - (intOf i).toNat)
  case atStart => exact ⟨0, by omega, rfl, rfl, (show mayB (F.take 0) = true from rfl)⟩
  case round =>
    obtain ⟨j, hj, rfl, rfl, hm⟩ := hrel
    by_cases hlt : j < n
    · obtain ⟨p, hp⟩ : ∃ y, F[j]? = some y := ⟨F[j]'(by omega), List.getElem?_eq_getElem (by omega)⟩
      obtain ⟨b, off, rfl, _, hbl, A', c', hc, hel, _⟩ := h.out.at' j p hp
      have hpl := hs p (List.mem_of_getElem? hp)
      have hpo := hide hp
      obtain ⟨m, hmm⟩ : ∃ m, p.length = m := ⟨_, rfl⟩
      rw [hmm] at hc hpl
      have hmm := hide hmm
      clear hel hp
      by_cases h1 : m = 0
      · have t1 : ((m : Int) == 0) = true := by simp [h1]
        have hF := hide (mayB_bad hpo.out (by rw [hmm.out]; omega))
        clear h1
        go_wp2
        go_ret
        exact ⟨by rw [hF.out]; rfl, rfl⟩
      · have t1 : ((m : Int) == 0) = false := by simp [h1]
        by_cases h2 : 16384 < m
        · have t3 : decide ((16384 : Int) < (m : Int)) = true := by simp; omega
          have t4 : decide (16384 < m) = true := by simp; omega
          have hF := hide (mayB_bad hpo.out (by rw [hmm.out]; omega))
          clear h1 h2
          go_wp2
          go_ret
          exact ⟨by rw [hF.out]; rfl, rfl⟩
        · have t3 : decide ((16384 : Int) < (m : Int)) = false := by simp; omega
          have t4 : decide (16384 < m) = false := by simp; omega
          have hF := hide (show mayB (F.take (j + 1)) = true by rw [mayB_take hpo.out, hm.out, hmm.out]; simp; omega)
          clear h1 h2
          go_wp2
          go_roundw
          case rel => exact ⟨j + 1, by omega, by simp; try omega, by trivial, hF⟩
          case measure => simp [intOf]; omega
    · obtain rfl : j = n := by omega
      have hF := hide (show mayB F = true by have := hm.out; rwa [← hn, List.take_length] at this)
      clear hn
      go_wp2
      go_ret
      exact ⟨by rw [hF.out]; rfl, rfl⟩
set_option maxRecDepth 100000 in
set_option maxHeartbeats 1000000 in
theorem rwrite_any {T : Nat → Prop} {w : World} {R r n c : Nat} {d : DS} {x : WS} {nm : ByteArray} {A : Option Addr} {zs : List Int} (h : Rk T w r d) (hrow : Row w R 55 (rwRow r x)) (hnT : ¬ T R) (hx : x.bad = false) (hln : d.l.length ≤ 1000) (hnb : n ≤ 1000000) (hs : nm.size ≤ 100) (hm : zs.length = n) (hcB : A = none → c = 0) (hB : Lies w A zs) (hout : Out T A zs) (hz : Octets zs) :
    Calls Tryz.prog 56 #[.pointer (some ⟨R, 0, none⟩), .string nm, .slice A n c] w fun e w' => e = .returned (.int .i64 (wrE d nm zs)) ∧ Rx T w R r w' (wrS d nm zs) ⟨x.G, x.K, wrB d nm zs⟩ := by
  have c0 : w.cell? ⟨R, 0, none⟩ = some (.pointer (some ⟨r, 0, none⟩)) := hrow.cell 0
  have hRl := hrow.lt
  have hap := hide (show Calls Tryz.prog 31 #[.pointer (some ⟨r, 0, none⟩), .string nm, .slice A n c] w fun e w' => e = .returned (.int .i64 (appE d nm zs)) ∧ Rx T w R r w' (appS d nm zs) x from by
    obtain ⟨ho, R', A', c', hR⟩ := h
    refine (rapp_any hR ho (by omega) hnb (by omega) hm hcB hB hout hz).mono fun e w' ⟨he, T2, h5, h6⟩ => ⟨he, T2, h5, hrow.same (h6.turn.block R hRl hnT), fun hk => ?_, h6.turn.mono fun k hk => .inl hk, fun k hk => ?_⟩
    · rcases h6.new R hk with z | z
      · exact hnT z
      · omega
    · rcases hk with hk | hk
      · exact (h6.new k hk).imp .inl id
      · exact .inl (.inr hk))
  have hla := hide (show (appS d nm zs).l.length ≤ 1000000 by have := len_app (d := d) (nm := nm) (p := zs); omega)
  have hsy := hide (fun (w2 : World) (T2 : Rx T w R r w2 (appS d nm zs) x) => T2.syn (nm := nm) hla.out)
  have hres := hide (show ∀ (e : Ending) (w' : World), (∃ v d2 b, e = .returned (.int .i64 v) ∧ (v, d2, b) = (if appE d nm zs = 0 then (synE (appS d nm zs) nm, synS (appS d nm zs) nm, synE (appS d nm zs) nm != 0) else if appE d nm zs = 7 then (appE d nm zs, appS d nm zs, false) else (appE d nm zs, appS d nm zs, true)) ∧ Rx T w R r w' d2 ⟨x.G, x.K, b⟩) → e = .returned (.int .i64 (wrE d nm zs)) ∧ Rx T w R r w' (wrS d nm zs) ⟨x.G, x.K, wrB d nm zs⟩ from by
    rintro e w' ⟨v, d2, b, rfl, hv, hX⟩
    unfold wrB wrE wrS
    by_cases h0 : appE d nm zs = 0
    · rw [if_pos h0] at hv
      simp only [Prod.mk.injEq] at hv
      obtain ⟨rfl, rfl, rfl⟩ := hv
      rw [if_neg (by rw [h0]; decide), if_neg (by rw [h0]; decide)]
      refine ⟨rfl, ?_⟩
      rw [h0]
      by_cases h1 : synE (appS d nm zs) nm = 0
      · simpa [h1] using hX
      · rw [show (synE (appS d nm zs) nm != 0) = true from by simp [h1]] at hX
        simpa [h1] using hX
    · rw [if_neg h0] at hv
      by_cases h7 : appE d nm zs = 7
      · rw [if_pos h7] at hv
        simp only [Prod.mk.injEq] at hv
        obtain ⟨rfl, rfl, rfl⟩ := hv
        rw [if_pos h0, if_pos h0]
        exact ⟨rfl, by simpa [h7] using hX⟩
      · rw [if_neg h7] at hv
        simp only [Prod.mk.injEq] at hv
        obtain ⟨rfl, rfl, rfl⟩ := hv
        rw [if_pos h0, if_pos h0]
        exact ⟨rfl, by simpa [h7, h0] using hX⟩)
  clear h hrow hB hout
  generalize appE d nm zs = ea at *
  generalize appS d nm zs = da at *
  generalize synE da nm = es at *
  generalize synS da nm = ds at *
  go_enter Tryz.func56, Tryz.ntmps56
  by_cases h0 : ea = 0
  · have t0 : (ea == 0) = true := by simp [h0]
    have h0 := hide h0
    go_upto_region 3 with (first
      | (go_at_call 31; (with_reducible refine hap.out.mono ?_); rintro e w1 ⟨rfl, hX1⟩; have hX1 := hide hX1))
    obtain ⟨z0, _, _, z3⟩ := hX1.out.cells
    go_upto_region 4 with (first
      | (go_at_call 53; (with_reducible refine (hsy.out _ hX1.out).mono ?_); rintro e w2 ⟨rfl, hX2⟩; have hX2 := hide hX2))
    clear z0 z3
    obtain ⟨_, _, _, z3⟩ := hX2.out.cells
    have f3 := hX2.out.free 3
    have hX3 := hide (hX2.out.bad (es != 0))
    have hret := hide (hres.out (.returned (.int .i64 es)) _ ⟨es, ds, es != 0, rfl, by rw [if_pos h0.out], hX3.out⟩)
    clear hX1 hX2 hX3
    go_wp2
    go_ret
    exact hret.out
  · have t0 : (ea == 0) = false := by simp [h0]
    by_cases h7 : ea = 7
    · have t7 : (ea != 7) = false := by simp [h7]
      have hret := hide (fun w' (hX : Rx T w R r w' da x) => hres.out (.returned (.int .i64 ea)) w' ⟨ea, da, false, rfl, by rw [if_neg h0, if_pos h7], by
        have h9 := hX
        rw [show x = ⟨x.G, x.K, false⟩ from by rw [← hx]] at h9
        exact h9⟩)
      clear h0 h7
      go_wp2_with (first
        | (go_at_call 31; (with_reducible refine hap.out.mono ?_); rintro e w1 ⟨rfl, hX1⟩; have hX1 := hide hX1))
      go_ret
      exact hret.out _ hX1.out
    · have t7 : (ea != 7) = true := by simp [h7]
      go_upto_region 6 with (first
        | (go_at_call 31; (with_reducible refine hap.out.mono ?_); rintro e w1 ⟨rfl, hX1⟩; have hX1 := hide hX1))
      obtain ⟨_, _, _, z3⟩ := hX1.out.cells
      have f3 := hX1.out.free 3
      have hX3 := hide (hX1.out.bad true)
      have hret := hide (hres.out (.returned (.int .i64 ea)) _ ⟨ea, da, true, rfl, by rw [if_neg h0, if_neg h7], hX3.out⟩)
      clear hX1 hX3 h0 h7
      go_wp2
      go_ret
      exact hret.out
end Go.Proofs.YtkmcnhjfnjikaaaGreatDoor
/- What the document's Add comes to. Conditions: its disk and the records lie in memory as they must, numbers are small. -/
namespace Go.Proofs.YtkmcnhjfnjikaaaGreatDoor
open Go.RowKit Go.Maps
theorem Rk.readd {T : Nat → Prop} {w : World} {r : Nat} {d : DS} (h : Rk T w r d) (hln : d.l.length ≤ 1000000) {nm : ByteArray} {wr : World} (hb : Below w.heap.size w wr) :
    Calls Tryz.prog 55 #[.pointer (some ⟨r, 0, none⟩), .string nm] wr fun e w' => (∃ B cb, e = .returned (.tuple #[.slice B (datO (find nm d.l)).length cb, .bool (find nm d.l).isSome])) ∧ wr = w' := by
  cases hf : find nm d.l with
  | none => exact (h.readn hln hb hf).mono fun e w' ⟨h1, h2⟩ => ⟨⟨none, 0, h1⟩, h2⟩
  | some f => exact (h.readb hln hb hf).mono fun e w' ⟨⟨B, cb, h1, _⟩, h2⟩ => ⟨⟨B, cb, h1⟩, h2⟩
/-- Frames put behind bytes of the call's own, one by one. -/
theorem rframe_more {w wr : World} {v : Value} {zs p : List Int} {A' : Option Addr} {c' m : Nat} (ho : wr.ownsRow w.heap.size 5 1 v zs.length (cellsOf zs)) (hel : El wr p A' c') (hm : p.length = m) (hp : May p.length ∧ Octets p) (hz : zs.length ≤ 2000000000) :
    ∃ A c N, v = .slice A zs.length c ∧ (zs ++ frm p).length = N ∧ Calls Tryz.prog 28 #[v, .slice A' m c'] wr (Cloned wr N (zs ++ frm p)) := by
  obtain ⟨A, c, rfl, hc⟩ := own_shape ho
  refine ⟨A, c, _, rfl, rfl, ?_⟩
  have h1 := hp.1.2
  have h := rframe_any A zs.length c zs A' m c' p wr rfl (Lies.of_own ho) hc (by omega) (by omega) hm hel.lies hel.nil hp.2
  have e : putR zs p = zs ++ frm p := by unfold putR; rw [if_pos hp.1]
  rw [e] at h
  exact h
section
variable {T : Nat → Prop} {w : World} {R r n c : Nat} {d : DS} {x : WS} {A : Option Addr} {F : List (List Int)} {Y : Nat → Prop}
def RaP (T : Nat → Prop) (w : World) (R r : Nat) (v : Int) (d : DS) (x : WS) (e : Ending) (w' : World) : Prop := e = .returned (.int .i64 v) ∧ Rx T w R r w' d x
theorem RaP.of {v v' : Int} {d d' : DS} {x x' : WS} {e : Ending} {w' : World} (h : RaP T w R r v d x e w') (h1 : v' = v ∧ d' = d ∧ x' = x) : RaP T w R r v' d' x' e w' := by
  obtain ⟨rfl, rfl, rfl⟩ := h1; exact h
set_option maxRecDepth 100000 in
set_option maxHeartbeats 4000000 in
theorem radd_any (h : Rk T w r d) (hrow : Row w R 55 (rwRow r x)) (hnT : ¬ T R) (hG : x.G < 100) (hK : x.K < 99) (hK1 : x.G ≠ 0 → 1 ≤ x.K) (hln : d.l.length ≤ 80)
    (hr : Recs Y w A c F) (hn : F.length = n) (hl : n ≤ 100000) (hs : ∀ q, q ∈ F → q.length ≤ 1000000) (hz : (enc F).length ≤ 1000000) :
    Calls Tryz.prog 20 #[.pointer (some ⟨R, 0, none⟩), .slice A n c] w (RaP T w R r (adE d x F) (adS d x F) (adW d x F)) := by
  have hx0 := hide (Rx.start h hrow hnT)
  obtain ⟨c0, c1, c2, c3⟩ := hx0.out.cells
  have hfit := hide (fun (w2 : World) (hb : Below w.heap.size w w2) => fits_any (hr.below hb) hn hl hs)
  cases hb : x.bad with
  | true =>
    have hR : adR x F = 10 := by unfold adR; rw [if_pos hb]
    have hres := hide (fun w2 (hbw : Below w.heap.size w w2) => (show RaP T w R r 10 d x (.returned (.int .i64 10)) w2 from ⟨rfl, hx0.out.below hbw⟩).of (v' := adE d x F) (d' := adS d x F) (x' := adW d x F) (by have := adE_refused (d := d) (x := x) (F := F) (by rw [hR]; decide); rw [hR] at this; exact this))
    rw [hb] at c3
    clear h hrow hr hR hfit hx0
    go_enter Tryz.func20, Tryz.ntmps20
    go_wp2
    go_ret
    exact hres.out _ (Below.refl _ _)
  | false =>
    rw [hb] at c3
    by_cases hg0 : x.G = 0
    · have hR : adR x F = 8 := by unfold adR; rw [hb, if_neg (by simp), if_pos hg0]
      have hres := hide (fun w2 (hbw : Below w.heap.size w w2) => (show RaP T w R r 8 d x (.returned (.int .i64 8)) w2 from ⟨rfl, hx0.out.below hbw⟩).of (v' := adE d x F) (d' := adS d x F) (x' := adW d x F) (by have := adE_refused (d := d) (x := x) (F := F) (by rw [hR]; decide); rw [hR] at this; exact this))
      have t1 : ((x.G : Int) == 0) = true := by simp [hg0]
      clear h hrow hr hR hfit hg0 hx0
      go_enter Tryz.func20, Tryz.ntmps20
      go_wp2
      go_ret
      exact hres.out _ (Below.refl _ _)
    · have t1 : ((x.G : Int) == 0) = false := by simp; omega
      cases hm : mayB F with
      | false =>
        have hR : adR x F = 1 := by unfold adR; rw [hb, if_neg (by simp), if_neg hg0, if_pos hm]
        have hres := hide (fun w2 (hbw : Below w.heap.size w w2) => (show RaP T w R r 1 d x (.returned (.int .i64 1)) w2 from ⟨rfl, hx0.out.below hbw⟩).of (v' := adE d x F) (d' := adS d x F) (x' := adW d x F) (by have := adE_refused (d := d) (x := x) (F := F) (by rw [hR]; decide); rw [hR] at this; exact this))
        rw [hm] at hfit
        clear h hrow hr hR hg0 hx0
        go_enter Tryz.func20, Tryz.ntmps20
        go_wp2_with (go_at_call 54; (with_reducible refine (hfit.out _ (Below.refl _ _)).mono ?_); rintro e w2 ⟨rfl, rfl⟩)
        go_ret
        exact hres.out _ (Below.refl _ _)
      | true =>
        have hR : adR x F = 0 := by unfold adR; rw [hb, if_neg (by simp), if_neg hg0, if_neg (by rw [hm]; simp)]
        rw [hm] at hfit
        by_cases hF : F = []
        · have hres := hide (fun w2 (hbw : Below w.heap.size w w2) => (show RaP T w R r 0 d x (.returned (.int .i64 0)) w2 from ⟨rfl, hx0.out.below hbw⟩).of (v' := adE d x F) (d' := adS d x F) (x' := adW d x F) (adE_none hR hF))
          have t3 : ((n : Int) == 0) = true := by simp [← hn, hF]
          clear h hrow hr hR hg0 hF hn hx0
          go_enter Tryz.func20, Tryz.ntmps20
          go_wp2_with (go_at_call 54; (with_reducible refine (hfit.out _ (Below.refl _ _)).mono ?_); rintro e w2 ⟨rfl, rfl⟩)
          go_ret
          exact hres.out _ (Below.refl _ _)
        · have hpos : F.length ≠ 0 := fun e => hF (List.eq_nil_of_length_eq_zero e)
          have t3 : ((n : Int) == 0) = false := by simp; omega
          have hright := hide (right_of hm hr.oct)
          have hres := hide (adE_some (d := d) hR hF)
          have hkl := nextK_le d x
          have hk1 := hK1 hg0
          have hnk := hide (show nextK d x = if 4096 < (datO (find (segN x.G x.K) d.l)).length ∧ x.K < most then x.K + 1 else x.K from rfl)
          have hnk1 : 1 ≤ nextK d x := by rw [hnk.out]; split <;> omega
          have hrec := hide hr
          have hlenj := hide (show ∀ j, (enc (F.take j)).length ≤ 1000000 from fun j => by
            have h2 : (enc F).length = (enc (F.take j)).length + (enc (F.drop j)).length := by rw [← List.length_append, ← enc_append, List.take_append_drop]
            omega)
          have hzo := hide (show Octets (enc F) from octets_enc hright.out)
          have hBl := hide (Below.refl w.heap.size w)
          have hcl := hide (fun (w2 : World) (hb : Below w.heap.size w w2) => (⟨(hx0.out.below hb).cells.1, (hx0.out.below hb).cells.2.1, (hx0.out.below hb).cells.2.2.1⟩ : w2.cell? ⟨R, 0, none⟩ = some (.pointer (some ⟨r, 0, none⟩)) ∧ w2.cell? ⟨R, 1, none⟩ = some (.int .i64 x.G) ∧ w2.cell? ⟨R, 2, none⟩ = some (.int .i64 x.K)))
          have hsg := hide (fun w2 => rsegment_any x.G x.K w2 (by omega) (by omega))
          have hsg2 := hide (fun w2 => rsegment_any x.G (nextK d x) w2 (by omega) (by omega))
          have hrd := hide (fun (w2 : World) (hb : Below w.heap.size w w2) => h.readd (nm := segN x.G x.K) (by omega) hb)
          have hwr := hide (fun (w4 : World) (hb4 : Below w.heap.size w w4) (A : Option Addr) (c m : Nat) (hzm : (enc F).length = m) (ho : w4.ownsRow w.heap.size 5 1 (.slice A m c) m (cellsOf (enc F))) =>
            (rwrite_any (nm := segN x.G (nextK d x)) (h.below hb4) (hrow.below hb4 hrow.lt) hnT hb (by omega) (by omega) (by have := (segN_size x.G (nextK d x)).2; omega) hzm (own_nil ho) (Lies.of_own ho) (fun _ a ha hk => by have := own_ge ho a ha; have := h.lt _ hk; omega) hzo.out).mono
              (R' := fun e w' => e = .returned (.int .i64 (wrE d (segN x.G (nextK d x)) (enc F))) ∧ Rx T w R r w' (wrS d (segN x.G (nextK d x)) (enc F)) ⟨x.G, x.K, wrB d (segN x.G (nextK d x)) (enc F)⟩) fun e w' ⟨h1, h2⟩ => ⟨h1, h2.since hb4⟩)
          have hbrf := hide (fun h => wrB_false (d := d) (nm := segN x.G (nextK d x)) (zs := enc F) h)
          clear hr hR hg0 hF hpos h hrow hm
          obtain ⟨m, hzm⟩ : ∃ m, (enc F).length = m := ⟨_, rfl⟩
          generalize wrE d (segN x.G (nextK d x)) (enc F) = er at *
          generalize wrS d (segN x.G (nextK d x)) (enc F) = dr at *
          generalize wrB d (segN x.G (nextK d x)) (enc F) = br at *
          generalize segN x.G (nextK d x) = nm2 at *
          generalize segN x.G x.K = nm at *
          obtain ⟨ld, hld⟩ : ∃ m, (datO (find nm d.l)).length = m := ⟨_, rfl⟩
          rw [hld] at hrd hnk
          generalize (find nm d.l).isSome = tf at *
          generalize nextK d x = K' at *
          clear hld
          have hn2 := hide hn
          clear hn
          go_enter Tryz.func20, Tryz.ntmps20
          go_upto_region 9 with (first
            | (go_at_call 54; (with_reducible refine (hfit.out _ (Below.refl _ _)).mono ?_); rintro e w2 ⟨rfl, rfl⟩))
          have QQ := hide (hBl.out.drew)
          go_region_held3 (fun w2 => w2.cell? ⟨R, 0, none⟩ = some (.pointer (some ⟨r, 0, none⟩)) ∧ w2.cell? ⟨R, 1, none⟩ = some (.int .i64 x.G) ∧ w2.cell? ⟨R, 2, none⟩ = some (.int .i64 x.K)) ((with_reducible exact hcl.out _ QQ.out))
            (first
              | (go_at_call 36; (with_reducible refine (hsg.out _).mono ?_); rintro e w5 ⟨rfl, hb5⟩; (have QN := hide (kept_trans QQ.out hb5)); clear QQ hb5; (have QQ := QN); clear QN)
              | (go_at_call 55; (with_reducible refine (hrd.out _ QQ.out).mono ?_); rintro e w6 ⟨⟨B6, c6, rfl⟩, rfl⟩))
          all_goals
            clear c0 c1 c2 c3
            obtain ⟨c0, c1, c2⟩ := hcl.out _ QQ.out
            have y3 : decide ((x.K : Int) < 999999999) = true := by simp; omega
            have y4 : decide (x.K < 999999999) = true := by simp; omega
            have hcase : (decide ((4096 : Int) < (ld : Int)) = true ∧ decide (4096 < ld) = true ∧ IntKind.i64.wrap ((x.K : Int) + 1) = (K' : Int)) ∨ (decide ((4096 : Int) < (ld : Int)) = false ∧ decide (4096 < ld) = false ∧ K' = x.K) := by
              by_cases h4 : 4096 < ld
              · left
                have e : K' = x.K + 1 := by rw [hnk.out, if_pos ⟨h4, by unfold most; omega⟩]
                exact ⟨decide_eq_true (by omega), decide_eq_true h4, by rw [IntKind.wrap_i64]; omega⟩
              · right
                have e : K' = x.K := by rw [hnk.out, if_neg (fun h => h4 h.1)]
                exact ⟨decide_eq_false (by omega), decide_eq_false h4, e⟩
            rcases hcase with ⟨h1, h2, h3⟩ | ⟨h1, h2, rfl⟩
            · clear hnk hkl hnk1
              go_wp2
              go_loopw [8, 9] (fun v i wx => ∃ (vv : Value) (j : Nat), vv = v ∧ j ≤ n ∧ i = .int .i64 j ∧ Hid (wx.ownsRow w.heap.size 5 1 vv (enc (F.take j)).length (cellsOf (enc (F.take j)))) ∧ Hid (Below w.heap.size w wx)) (fun _ i _ => n - (intOf i).toNat)
              case atStart => exact ⟨_, 0, rfl, by omega, rfl, (show World.ownsRow _ _ _ _ _ _ _ from World.ownsRow_nil _ _ _ _), QQ⟩
              case round =>
                clear QQ c0 c1 c2
                obtain ⟨v, j, rfl, hj, rfl, ho, hbw⟩ := hrel
                by_cases hlt : j < n
                · have z1 : decide ((j : Int) < (n : Int)) = true := by simp; omega
                  have z2 : decide (j < n) = true := by simp; omega
                  obtain ⟨p, hp⟩ : ∃ y, F[j]? = some y := ⟨F[j]'(by rw [hn2.out]; exact hlt), List.getElem?_eq_getElem _⟩
                  obtain ⟨b, off, rfl, _, hbl, A', c', hc, hel, _⟩ := (hrec.out.below hbw.out).at' j p hp
                  obtain ⟨mp, hmp⟩ : ∃ m, p.length = m := ⟨_, rfl⟩
                  rw [hmp] at hc
                  have hlj := hlenj.out j
                  obtain ⟨A8, c8, N9, rfl, hN9, hfr⟩ := rframe_more ho.out hel hmp (hright.out p (List.mem_of_getElem? hp)) (by omega)
                  have he := hide (enc_take hp)
                  have hN9 := hide hN9
                  have hfr := hide hfr
                  have hel := hide hel
                  clear hp hmp
                  generalize (enc (F.take j)).length = k9 at *
                  have hj2 : j + 1 ≤ n := hlt
                  clear hlt
                  go_wp2_with (first
                    | (go_at_call 28; (with_reducible refine hfr.out.mono ?_); rintro e w9 ⟨A9, c9, rfl, o9, b9⟩; have o9 := hide o9; have b9 := hide b9))
                  have ho9 := hide (show w9.ownsRow w.heap.size 5 1 (.slice A9 N9 c9) (enc (F.take (j + 1))).length (cellsOf (enc (F.take (j + 1)))) by rw [he.out, hN9.out]; exact own_mono o9.out hbw.out.size)
                  have hb9 := hide (kept_trans hbw.out b9.out)
                  go_roundw
                  case rel => exact ⟨_, j + 1, rfl, hj2, by go_num, ho9, hb9⟩
                  case measure => simp [intOf]; omega
                · obtain rfl : j = n := by omega
                  have z1 : decide ((j : Int) < (j : Int)) = false := by simp
                  have z2 : decide (j < j) = false := by simp
                  obtain ⟨c0, c1, c2⟩ := hcl.out _ hbw.out
                  have ho' := ho.out
                  rw [show F.take j = F by rw [← hn2.out, List.take_length], hzm] at ho'
                  obtain ⟨A9, c9, rfl, hc9⟩ := own_shape ho'
                  have ho9 := hide ho'
                  clear ho ho' hlt
                  go_upto_region 19 with (first
                    | (go_at_call 36; (with_reducible refine (hsg2.out _).mono ?_); rintro e w5 ⟨rfl, hb5⟩; have hb5 := hide hb5)
                    | (go_at_call 56; (with_reducible refine (hwr.out _ (kept_trans hbw.out hb5.out) A9 c9 m hzm (own_below ho9.out hb5.out)).mono ?_); rintro e w6 ⟨rfl, hX⟩; have hX := hide hX))
                  clear c0 c1 c2
                  by_cases hez : er = 0
                  · have e1 : (er == 0) = true := by simp [hez]
                    obtain ⟨_, _, d2, _⟩ := hX.out.cells
                    have f2 := hX.out.free 2
                    have hX2 := hide (hX.out.setK K')
                    have hbr := hbrf.out hez
                    have hret := hide (fun (e : Ending) w' (h : RaP T w R r er dr ⟨x.G, K', br⟩ e w') => h.of (v' := adE d x F) (d' := adS d x F) (x' := adW d x F) ⟨hres.out.1, hres.out.2.1, by rw [hres.out.2.2, if_pos hez, hbr]⟩)
                    clear hez hbr
                    go_wp2
                    go_ret
                    exact hret.out _ _ ⟨rfl, hX2.out⟩
                  · have e1 : (er == 0) = false := by simp [hez]
                    have hret := hide (fun (e : Ending) w' (h : RaP T w R r er dr ⟨x.G, x.K, br⟩ e w') => h.of (v' := adE d x F) (d' := adS d x F) (x' := adW d x F) ⟨hres.out.1, hres.out.2.1, by rw [hres.out.2.2, if_neg hez]⟩)
                    clear hez
                    go_wp2
                    go_ret
                    exact hret.out _ _ ⟨rfl, hX.out⟩
            · clear hnk hkl hnk1
              go_wp2
              go_loopw [8, 9] (fun v i wx => ∃ (vv : Value) (j : Nat), vv = v ∧ j ≤ n ∧ i = .int .i64 j ∧ Hid (wx.ownsRow w.heap.size 5 1 vv (enc (F.take j)).length (cellsOf (enc (F.take j)))) ∧ Hid (Below w.heap.size w wx)) (fun _ i _ => n - (intOf i).toNat)
              case atStart => exact ⟨_, 0, rfl, by omega, rfl, (show World.ownsRow _ _ _ _ _ _ _ from World.ownsRow_nil _ _ _ _), QQ⟩
              case round =>
                clear QQ c0 c1 c2
                obtain ⟨v, j, rfl, hj, rfl, ho, hbw⟩ := hrel
                by_cases hlt : j < n
                · have z1 : decide ((j : Int) < (n : Int)) = true := by simp; omega
                  have z2 : decide (j < n) = true := by simp; omega
                  obtain ⟨p, hp⟩ : ∃ y, F[j]? = some y := ⟨F[j]'(by rw [hn2.out]; exact hlt), List.getElem?_eq_getElem _⟩
                  obtain ⟨b, off, rfl, _, hbl, A', c', hc, hel, _⟩ := (hrec.out.below hbw.out).at' j p hp
                  obtain ⟨mp, hmp⟩ : ∃ m, p.length = m := ⟨_, rfl⟩
                  rw [hmp] at hc
                  have hlj := hlenj.out j
                  obtain ⟨A8, c8, N9, rfl, hN9, hfr⟩ := rframe_more ho.out hel hmp (hright.out p (List.mem_of_getElem? hp)) (by omega)
                  have he := hide (enc_take hp)
                  have hN9 := hide hN9
                  have hfr := hide hfr
                  have hel := hide hel
                  clear hp hmp
                  generalize (enc (F.take j)).length = k9 at *
                  have hj2 : j + 1 ≤ n := hlt
                  clear hlt
                  go_wp2_with (first
                    | (go_at_call 28; (with_reducible refine hfr.out.mono ?_); rintro e w9 ⟨A9, c9, rfl, o9, b9⟩; have o9 := hide o9; have b9 := hide b9))
                  have ho9 := hide (show w9.ownsRow w.heap.size 5 1 (.slice A9 N9 c9) (enc (F.take (j + 1))).length (cellsOf (enc (F.take (j + 1)))) by rw [he.out, hN9.out]; exact own_mono o9.out hbw.out.size)
                  have hb9 := hide (kept_trans hbw.out b9.out)
                  go_roundw
                  case rel => exact ⟨_, j + 1, rfl, hj2, by go_num, ho9, hb9⟩
                  case measure => simp [intOf]; omega
                · obtain rfl : j = n := by omega
                  have z1 : decide ((j : Int) < (j : Int)) = false := by simp
                  have z2 : decide (j < j) = false := by simp
                  obtain ⟨c0, c1, c2⟩ := hcl.out _ hbw.out
                  have ho' := ho.out
                  rw [show F.take j = F by rw [← hn2.out, List.take_length], hzm] at ho'
                  obtain ⟨A9, c9, rfl, hc9⟩ := own_shape ho'
                  have ho9 := hide ho'
                  clear ho ho' hlt
                  go_upto_region 19 with (first
                    | (go_at_call 36; (with_reducible refine (hsg2.out _).mono ?_); rintro e w5 ⟨rfl, hb5⟩; have hb5 := hide hb5)
                    | (go_at_call 56; (with_reducible refine (hwr.out _ (kept_trans hbw.out hb5.out) A9 c9 m hzm (own_below ho9.out hb5.out)).mono ?_); rintro e w6 ⟨rfl, hX⟩; have hX := hide hX))
                  clear c0 c1 c2
                  by_cases hez : er = 0
                  · have e1 : (er == 0) = true := by simp [hez]
                    obtain ⟨_, _, d2, _⟩ := hX.out.cells
                    have f2 := hX.out.free 2
                    have hX2 := hide (hX.out.setK x.K)
                    have hbr := hbrf.out hez
                    have hret := hide (fun (e : Ending) w' (h : RaP T w R r er dr ⟨x.G, x.K, br⟩ e w') => h.of (v' := adE d x F) (d' := adS d x F) (x' := adW d x F) ⟨hres.out.1, hres.out.2.1, by rw [hres.out.2.2, if_pos hez, hbr]⟩)
                    clear hez hbr
                    go_wp2
                    go_ret
                    exact hret.out _ _ ⟨rfl, hX2.out⟩
                  · have e1 : (er == 0) = false := by simp [hez]
                    have hret := hide (fun (e : Ending) w' (h : RaP T w R r er dr ⟨x.G, x.K, br⟩ e w') => h.of (v' := adE d x F) (d' := adS d x F) (x' := adW d x F) ⟨hres.out.1, hres.out.2.1, by rw [hres.out.2.2, if_neg hez]⟩)
                    clear hez
                    go_wp2
                    go_ret
                    exact hret.out _ _ ⟨rfl, hX.out⟩
end
end Go.Proofs.YtkmcnhjfnjikaaaGreatDoor
/- What the document's Anew comes to. Conditions: its disk and the records lie in memory as they must, numbers are small; the old generation's segments are there, no others. -/
namespace Go.Proofs.YtkmcnhjfnjikaaaGreatDoor
open Go.RowKit Go.Maps
/-- The first j are taken away. -/
def Rg (ns : List ByteArray) (j : Nat) (d1 dj : DS) : Prop := remL (ns.take j) d1 = (0, dj)
section
variable {ns : List ByteArray} {j : Nat} {d1 dj : DS} {s : ByteArray}
theorem Rg.more (h : Rg ns j d1 dj) (hj : ns[j]? = some s) (he : remE dj s = 0) : Rg ns (j + 1) d1 (remS dj s) := by
  unfold Rg at *
  rw [List.take_add_one, hj, show (some s).toList = [s] from rfl, remL_append, h, if_pos rfl, remL_cons, he, if_pos rfl]
  rfl
theorem Rg.stop (h : Rg ns j d1 dj) (hj : ns[j]? = some s) (he : remE dj s ≠ 0) : remL ns d1 = (remE dj s, remS dj s) := by
  have hlt : j < ns.length := by
    rcases Nat.lt_or_ge j ns.length with h1 | h1
    · exact h1
    · rw [List.getElem?_eq_none h1] at hj; cases hj
  have e : ns = ns.take j ++ s :: ns.drop (j + 1) := by
    rw [List.getElem?_eq_getElem hlt] at hj
    injection hj with hj
    have h2 : ns.drop j = s :: ns.drop (j + 1) := by rw [← hj]; exact List.drop_eq_getElem_cons hlt
    rw [← h2, List.take_append_drop]
  unfold Rg at h
  conv => lhs; rw [e]
  rw [remL_append, h, if_pos rfl, remL_cons, if_neg he]
theorem Rg.fin (h : Rg ns ns.length d1 dj) : remL ns d1 = (0, dj) := by
  unfold Rg at h
  rw [List.take_length] at h
  exact h
end
/-- The old generation's segments. -/
def oldN (G K : Nat) : List ByteArray := (List.range K).map fun i => segN G (1 + i)
theorem oldN_at {G K j : Nat} (h : j < K) : (oldN G K)[j]? = some (segN G (j + 1)) := by
  unfold oldN
  rw [List.getElem?_map, List.getElem?_range h, Nat.add_comm j 1]
  rfl
theorem oldN_len (G K : Nat) : (oldN G K).length = K := by unfold oldN; rw [List.length_map, List.length_range]
section
variable {T : Nat → Prop} {w : World} {R r n c : Nat} {d : DS} {x : WS} {A : Option Addr} {F : List (List Int)} {Y : Nat → Prop}
set_option maxRecDepth 100000 in
set_option maxHeartbeats 4000000 in
theorem ranew_any (h : Rk T w r d) (hrow : Row w R 55 (rwRow r x)) (hnT : ¬ T R) (hG : x.G < 98) (hK : x.K < 98) (hK0 : x.K ≠ 0 → x.G ≠ 0) (hln : d.l.length ≤ 80)
    (hr : Recs Y w A c F) (hn : F.length = n) (hl : n ≤ 100000) (hs : ∀ q, q ∈ F → q.length ≤ 1000000) (hz : (anB F).length ≤ 1000000) (hO : x.bad = false → anO d x F = oldN x.G x.K) :
    Calls Tryz.prog 21 #[.pointer (some ⟨R, 0, none⟩), .slice A n c] w (RaP T w R r (anE d x F) (anS d x F) (anW d x F)) := by
  have hx0 := hide (Rx.start h hrow hnT)
  obtain ⟨c0, c1, c2, c3⟩ := hx0.out.cells
  have hfit := hide (fun (w2 : World) (hb : Below w.heap.size w w2) => fits_any (hr.below hb) hn hl hs)
  cases hb : x.bad with
  | true =>
    have hR : anR x F = 10 := by unfold anR; rw [if_pos hb]
    have hres := hide (fun w2 (hbw : Below w.heap.size w w2) => (show RaP T w R r 10 d x (.returned (.int .i64 10)) w2 from ⟨rfl, hx0.out.below hbw⟩).of (v' := anE d x F) (d' := anS d x F) (x' := anW d x F) (by have := anE_refused (d := d) (x := x) (F := F) (by rw [hR]; decide); rw [hR] at this; exact this))
    rw [hb] at c3
    clear h hrow hr hR hfit hx0 hO
    go_enter Tryz.func21, Tryz.ntmps21
    go_wp2
    go_ret
    exact hres.out _ (Below.refl _ _)
  | false =>
    rw [hb] at c3
    cases hm : mayB F with
    | false =>
      have hR : anR x F = 1 := by unfold anR; rw [hb, if_neg (by simp), if_pos hm]
      have hres := hide (fun w2 (hbw : Below w.heap.size w w2) => (show RaP T w R r 1 d x (.returned (.int .i64 1)) w2 from ⟨rfl, hx0.out.below hbw⟩).of (v' := anE d x F) (d' := anS d x F) (x' := anW d x F) (by have := anE_refused (d := d) (x := x) (F := F) (by rw [hR]; decide); rw [hR] at this; exact this))
      rw [hm] at hfit
      clear h hrow hr hR hx0 hO
      go_enter Tryz.func21, Tryz.ntmps21
      go_wp2_with (go_at_call 54; (with_reducible refine (hfit.out _ (Below.refl _ _)).mono ?_); rintro e w2 ⟨rfl, rfl⟩)
      go_ret
      exact hres.out _ (Below.refl _ _)
    | true =>
      have hR : anR x F = 0 := by unfold anR; rw [hb, if_neg (by simp), if_neg (by rw [hm]; simp), if_neg (show ¬ x.G = most by unfold most; omega)]
      rw [hm] at hfit
      have hright := hide (right_of hm hr.oct)
      have hra := hide (right_anF hm hr.oct)
      have herr := hide (fun h => anE_err (d := d) (F := F) hR h)
      have hoks := hide (fun h => anE_ok (d := d) (F := F) hR h)
      have hanD := hide (show anD d x F = remL (oldN x.G x.K) (wrS d (segN (x.G + 1) 1) (anB F)) by unfold anD; rw [hO hb])
      have hrec := hide hr
      have hlenj := hide (show ∀ j, (enc (num7 (F.length : Nat) :: F.take j)).length ≤ 1000000 from fun j => by
        have h2 : (anB F).length = (enc (num7 (F.length : Nat) :: F.take j)).length + (enc (F.drop j)).length := by rw [← List.length_append, ← enc_append, List.cons_append, List.take_append_drop]; rfl
        omega)
      have hzo := hide (show Octets (anB F) from octets_enc hra.out)
      have hBl := hide (Below.refl w.heap.size w)
      have y5 : decide ((999999999 : Int) ≤ (x.G : Int)) = false := by simp; omega
      have y6 : decide (999999999 ≤ x.G) = false := by simp; omega
      have hnum := hide (fun (w2 : World) => (rnum_any none 0 0 [] (n : Int) w2 rfl Lies.none_ (fun _ => rfl) (by omega) (by omega) (by omega)).mono (R' := fun e w' => ∃ A c lq, e = .returned (.slice A lq c) ∧ (num7 (n : Int)).length = lq ∧ El w' (num7 (n : Int)) A c ∧ Below w2.heap.size w2 w') fun e w' ⟨v, h1, h2, h3⟩ => by
        rw [List.nil_append, Nat.zero_add] at h2
        obtain ⟨A, c, rfl, _⟩ := own_shape h2
        exact ⟨A, c, _, h1, rfl, El.of_own h2, h3⟩)
      have hfr1 := hide (fun (w2 : World) (A : Option Addr) (c lq : Nat) (hlq : (num7 (n : Int)).length = lq) (hel : El w2 (num7 (n : Int)) A c) => (show ∃ N, (enc [num7 (n : Int)]).length = N ∧ Calls Tryz.prog 28 #[.slice none 0 0, .slice A lq c] w2 (Cloned w2 N (enc [num7 (n : Int)])) from by
        have l9 := num7_len (n : Int)
        have h9 := rframe_any none 0 0 [] A lq c (num7 (n : Int)) w2 rfl Lies.none_ (fun _ => rfl) (by omega) (by omega) hlq hel.lies hel.nil (octets_num7 _)
        rw [show putR [] (num7 (n : Int)) = enc [num7 (n : Int)] by unfold putR; rw [if_pos ⟨by omega, by omega⟩, enc_one]; rfl] at h9
        exact ⟨_, rfl, h9⟩))
      obtain ⟨G1, hG1⟩ : ∃ g, x.G + 1 = g := ⟨_, rfl⟩
      have hw1 : IntKind.i64.wrap ((x.G : Int) + 1) = (G1 : Int) := by rw [IntKind.wrap_i64]; omega
      have hsg := hide (fun (w2 : World) => (show Calls Tryz.prog 36 #[.int .i64 G1, .int .i64 1] w2 fun e w' => e = .returned (.string (segN G1 1)) ∧ Below w2.heap.size w2 w' from rsegment_any G1 1 w2 (by omega) (by omega)))
      have hsgk := hide (fun (w2 : World) (k : Nat) (hk : 1 ≤ k ∧ k ≤ x.K) => rsegment_any x.G k w2 (by have := hK0 (by omega); omega) (by omega))
      have hwr := hide (fun (w4 : World) (hb4 : Below w.heap.size w w4) (A : Option Addr) (c m : Nat) (hzm : (anB F).length = m) (ho : w4.ownsRow w.heap.size 5 1 (.slice A m c) m (cellsOf (anB F))) =>
        (rwrite_any (nm := segN G1 1) (h.below hb4) (hrow.below hb4 hrow.lt) hnT hb (by omega) (by omega) (by have := (segN_size G1 1).2; omega) hzm (own_nil ho) (Lies.of_own ho) (fun _ a ha hk => by have := own_ge ho a ha; have := h.lt _ hk; omega) hzo.out).mono
          (R' := fun e w' => e = .returned (.int .i64 (wrE d (segN G1 1) (anB F))) ∧ Rx T w R r w' (wrS d (segN G1 1) (anB F)) ⟨x.G, x.K, wrB d (segN G1 1) (anB F)⟩) fun e w' ⟨h1, h2⟩ => ⟨h1, h2.since hb4⟩)
      have hbrf := hide (fun h => wrB_false (d := d) (nm := segN G1 1) (zs := anB F) h)
      have hwl := hide (show (wrS d (segN G1 1) (anB F)).l.length ≤ 200 by have := len_wr h.ok.up (segN G1 1) (anB F); omega)
      have hcl := hide (fun (w2 : World) (hb : Below w.heap.size w w2) => (hx0.out.below hb).cells)
      rw [hG1] at herr hoks hanD
      clear hr hR h hrow hm hO
      obtain ⟨m, hzm⟩ : ∃ m, (anB F).length = m := ⟨_, rfl⟩
      generalize wrE d (segN G1 1) (anB F) = er at *
      generalize wrS d (segN G1 1) (anB F) = dr at *
      generalize wrB d (segN G1 1) (anB F) = br at *
      generalize segN G1 1 = nm2 at *
      have hn2 := hide hn
      have hG1 := hide hG1
      have hanB := hide (show anB F = enc (num7 (F.length : Nat) :: F) from rfl)
      clear hn
      go_enter Tryz.func21, Tryz.ntmps21
      go_upto_region 7 with (first
        | (go_at_call 54; (with_reducible refine (hfit.out _ (Below.refl _ _)).mono ?_); rintro e w2 ⟨rfl, rfl⟩))
      go_upto_region 8 with (first
        | (go_at_call 29; (with_reducible refine (hnum.out _).mono ?_); rintro e w1 ⟨Aq, cq, lq, rfl, hlq, helq, hb1⟩; have hb1 := hide hb1; obtain ⟨N0, hN0, hf1⟩ := hfr1.out _ Aq cq lq hlq helq; have hf1 := hide hf1; have hN0 := hide hN0; clear helq hlq)
        | (go_at_call 28; (with_reducible refine hf1.out.mono ?_); rintro e w2 ⟨A0, c0', rfl, o0, b0⟩; have o0 := hide o0; have b0 := hide b0))
      have QQ := hide (kept_trans hb1.out b0.out)
      have hs0 := hide (show w2.ownsRow w.heap.size 5 1 (.slice A0 N0 c0') (enc (num7 (F.length : Nat) :: F.take 0)).length (cellsOf (enc (num7 (F.length : Nat) :: F.take 0))) by
        rw [List.take_zero, hn2.out]
        have := own_mono o0.out (show w.heap.size ≤ w1.heap.size from hb1.out.size)
        rw [hN0.out]
        exact this)
      clear o0 b0 hb1 hf1 hfr1 hnum c0 c1 c2 c3
      go_wp2
      go_loopw [5, 6] (fun v i wx => ∃ (vv : Value) (j : Nat), vv = v ∧ j ≤ n ∧ i = .int .i64 j ∧ Hid (wx.ownsRow w.heap.size 5 1 vv (enc (num7 (F.length : Nat) :: F.take j)).length (cellsOf (enc (num7 (F.length : Nat) :: F.take j)))) ∧ Hid (Below w.heap.size w wx)) (fun _ i _ => n - (intOf i).toNat)
      case atStart => exact ⟨_, 0, rfl, by omega, rfl, hs0, QQ⟩
      case round =>
        clear QQ hs0
        obtain ⟨v, j, rfl, hj, rfl, ho, hbw⟩ := hrel
        by_cases hlt : j < n
        · have z1 : decide ((j : Int) < (n : Int)) = true := by simp; omega
          have z2 : decide (j < n) = true := by simp; omega
          obtain ⟨p, hp⟩ : ∃ y, F[j]? = some y := ⟨F[j]'(by rw [hn2.out]; exact hlt), List.getElem?_eq_getElem _⟩
          obtain ⟨b, off, rfl, _, hbl, A', c', hc, hel, _⟩ := (hrec.out.below hbw.out).at' j p hp
          obtain ⟨mp, hmp⟩ : ∃ m, p.length = m := ⟨_, rfl⟩
          rw [hmp] at hc
          have hlj := hlenj.out j
          obtain ⟨A8, c8, N9, rfl, hN9, hfr⟩ := rframe_more ho.out hel hmp (hright.out p (List.mem_of_getElem? hp)) (by omega)
          have he := hide (show enc (num7 (F.length : Nat) :: F.take (j + 1)) = enc (num7 (F.length : Nat) :: F.take j) ++ frm p by rw [enc_cons, enc_take hp, enc_cons, List.append_assoc])
          have hN9 := hide hN9
          have hfr := hide hfr
          have hel := hide hel
          clear hp hmp
          generalize (enc (num7 (F.length : Nat) :: F.take j)).length = k9 at *
          have hj2 : j + 1 ≤ n := hlt
          clear hlt
          go_wp2_with (first
            | (go_at_call 28; (with_reducible refine hfr.out.mono ?_); rintro e w9 ⟨A9, c9, rfl, o9, b9⟩; have o9 := hide o9; have b9 := hide b9))
          have ho9 := hide (show w9.ownsRow w.heap.size 5 1 (.slice A9 N9 c9) (enc (num7 (F.length : Nat) :: F.take (j + 1))).length (cellsOf (enc (num7 (F.length : Nat) :: F.take (j + 1)))) by rw [he.out, hN9.out]; exact own_mono o9.out hbw.out.size)
          have hb9 := hide (kept_trans hbw.out b9.out)
          go_roundw
          case rel => exact ⟨_, j + 1, rfl, hj2, by go_num, ho9, hb9⟩
          case measure => simp [intOf]; omega
        · obtain rfl : j = n := by omega
          have z1 : decide ((j : Int) < (j : Int)) = false := by simp
          have z2 : decide (j < j) = false := by simp
          obtain ⟨c0, c1, c2, c3⟩ := hcl.out _ hbw.out
          have ho' := ho.out
          rw [show F.take j = F by rw [← hn2.out, List.take_length], ← hanB.out, hzm] at ho'
          obtain ⟨A9, c9, rfl, hc9⟩ := own_shape ho'
          have ho9 := hide ho'
          clear ho ho' hlt
          go_upto_region 13 with (first
            | (go_at_call 36; (with_reducible refine (hsg.out _).mono ?_); rintro e w5 ⟨rfl, hb5⟩; have hb5 := hide hb5)
            | (go_at_call 56; (with_reducible refine (hwr.out _ (kept_trans hbw.out hb5.out) A9 c9 m hzm (own_below ho9.out hb5.out)).mono ?_); rintro e w6 ⟨rfl, hX⟩; have hX := hide hX))
          clear c0 c1 c2 c3
          by_cases hez : er = 0
          · have e1 : (er != 0) = false := by simp [hez]
            obtain ⟨k1, k2, k3⟩ := hoks.out hez
            rw [hanD.out] at k1 k2 k3
            have ok1 := hide k1
            have ok2 := hide k2
            have ok3 := hide k3
            clear k1 k2 k3
            have hbr := hbrf.out hez
            subst hbr
            have hcx := hide (fun (w' : World) (dj : DS) (h : Rx T w R r w' dj ⟨x.G, x.K, false⟩) => (h.cells : w'.cell? ⟨R, 0, none⟩ = some (.pointer (some ⟨r, 0, none⟩)) ∧ w'.cell? ⟨R, 1, none⟩ = some (.int .i64 x.G) ∧ w'.cell? ⟨R, 2, none⟩ = some (.int .i64 x.K) ∧ w'.cell? ⟨R, 3, none⟩ = some (.bool false)))
            clear hez hoks herr hbrf hwr hfit
            go_wp2
            go_loopw [8] (fun k wx => ∃ (q : Nat) (dj : DS), k = .int .i64 q ∧ 1 ≤ q ∧ q ≤ x.K + 1 ∧ Hid (Rg (oldN x.G x.K) (q - 1) dr dj) ∧ Hid (dj.l.length ≤ 200 + q) ∧ Hid (Rx T w R r wx dj ⟨x.G, x.K, false⟩)) (fun k _ => x.K + 1 - (intOf k).toNat)
            case atStart => exact ⟨1, dr, rfl, by omega, by omega, (show Rg _ 0 dr dr from rfl), Nat.le_trans hwl.out (by omega), hX⟩
            case round =>
              clear hX
              obtain ⟨q, dj, rfl, hq1, hq2, hRg, hdl, hX⟩ := hrel
              have hdl2 : dj.l.length ≤ 1000000 := by have := hdl.out; omega
              obtain ⟨c0, c1, c2, c3⟩ := hcx.out _ _ hX.out
              by_cases hlt : q ≤ x.K
              · have z1 : decide ((q : Int) ≤ (x.K : Int)) = true := by simp; omega
                have z2 : decide (q ≤ x.K) = true := by simp; omega
                have hq3 : q + 1 ≤ x.K + 1 := by omega
                have hq4 : 1 ≤ q + 1 := by omega
                have hq5 : x.K + 1 - (q + 1) < x.K + 1 - q := by omega
                have hat := oldN_at (G := x.G) (show q - 1 < x.K by omega)
                rw [show q - 1 + 1 = q by omega] at hat
                have hsq := hide (fun w2 => hsgk.out w2 q ⟨hq1, hlt⟩)
                have hmore := hide (fun h => (show Rg (oldN x.G x.K) (q + 1 - 1) dr (remS dj (segN x.G q)) from by have := hRg.out.more hat h; rw [show q - 1 + 1 = q + 1 - 1 by omega] at this; exact this))
                have hstop := hide (fun h => hRg.out.stop hat h)
                have hlr := hide (show (remS dj (segN x.G q)).l.length ≤ 200 + (q + 1) by have := len_rem (d := dj) (nm := segN x.G q); have := hdl.out; omega)
                clear hat hRg
                go_upto_region 18 with (fail)
                have QQ := hide (hX.out.below (below_drew _))
                go_region_held3 (fun w' => w'.cell? ⟨R, 0, none⟩ = some (.pointer (some ⟨r, 0, none⟩)) ∧ w'.cell? ⟨R, 1, none⟩ = some (.int .i64 x.G) ∧ w'.cell? ⟨R, 2, none⟩ = some (.int .i64 x.K) ∧ w'.cell? ⟨R, 3, none⟩ = some (.bool false)) ((with_reducible exact hcx.out _ _ QQ.out))
                  (first
                    | (go_at_call 36; (with_reducible refine (hsq.out _).mono ?_); rintro e w7 ⟨rfl, hb7⟩; (have QN := hide (QQ.out.below hb7)); clear QQ hb7; (have QQ := QN); clear QN)
                    | (go_at_call 52; (with_reducible refine (QQ.out.rem hdl2).mono ?_); rintro e w8 ⟨rfl, hQ8⟩; clear QQ; (have QQ := hide hQ8); clear hQ8))
                all_goals
                  clear c0 c1 c2 c3 hX
                  obtain ⟨c0, c1, c2, c3⟩ : _ ∧ _ ∧ _ ∧ _ := ⟨QQ.out.cells.1, QQ.out.cells.2.1, QQ.out.cells.2.2.1, QQ.out.cells.2.2.2⟩
                  have f3 := QQ.out.free 3
                  generalize hxe : remE dj (segN x.G q) = xe at *
                  generalize remS dj (segN x.G q) = d2 at *
                  by_cases hx : xe = 0
                  · have cx : (xe != 0) = false := by simp [hx]
                    have hm2 := hide (hmore.out hx)
                    clear hxe hx hlt
                    go_wp2
                    go_roundw
                    case rel => exact ⟨q + 1, d2, by go_num, hq4, hq3, hm2, hlr, QQ⟩
                    case measure => simp [intOf]; omega
                  · have cx : (xe != 0) = true := by simp [hx]
                    have hst := hstop.out hx
                    have hX3 := hide (QQ.out.bad true)
                    have hret := hide (fun (e : Ending) w' (h : RaP T w R r xe d2 ⟨x.G, x.K, true⟩ e w') => h.of (v' := anE d x F) (d' := anS d x F) (x' := anW d x F) ⟨by rw [ok1.out, hst], by rw [ok2.out, hst], by rw [ok3.out, hst, if_pos hx]⟩)
                    clear hxe hx hlt hst
                    go_wp2
                    go_ret
                    exact hret.out _ _ ⟨rfl, hX3.out⟩
              · have z1 : decide ((q : Int) ≤ (x.K : Int)) = false := by simp; omega
                have z2 : decide (q ≤ x.K) = false := by simp; omega
                have hfin : remL (oldN x.G x.K) dr = (0, dj) := by
                  have h9 := hRg.out
                  rw [show q - 1 = (oldN x.G x.K).length by rw [oldN_len]; omega] at h9
                  exact h9.fin
                have f1 := hX.out.free 1
                have f2 := hX.out.free 2
                have hX3 := hide ((hX.out.setG G1).setK 1)
                have hret := hide (fun (e : Ending) w' (h : RaP T w R r 0 dj ⟨G1, 1, false⟩ e w') => h.of (v' := anE d x F) (d' := anS d x F) (x' := anW d x F) ⟨by rw [ok1.out, hfin], by rw [ok2.out, hfin], by rw [ok3.out, hfin, if_neg (fun h => h rfl)]⟩)
                clear hlt hfin hRg
                go_wp2
                go_ret
                exact hret.out _ _ ⟨rfl, hX3.out⟩
          · have e1 : (er != 0) = true := by simp [hez]
            have hret := hide (fun (e : Ending) w' (h : RaP T w R r er dr ⟨x.G, x.K, br⟩ e w') => h.of (v' := anE d x F) (d' := anS d x F) (x' := anW d x F) (herr.out hez))
            clear hez hoks herr hwr
            go_wp2
            go_ret
            exact hret.out _ _ ⟨rfl, hX.out⟩
end
end Go.Proofs.YtkmcnhjfnjikaaaGreatDoor
