/- A Wal in memory; what package wal's noted, write, next and Where come to. Conditions: the disk lies in memory as it must, numbers are small. -/
import Derived.Test.YtkmcnhjfnjikaaaGreatDoorVtid
namespace Go.Proofs.YtkmcnhjfnjikaaaGreatDoor
open Go.RowKit Go.Maps
theorem grown_set (w : World) (a : Addr) (u : Value) : w.grownBy (w.setCell a u) (some a.block) :=
  ⟨rfl, rfl, rfl, Nat.le_of_eq (by simp), fun k _ hne => Below.heap_setCell w a u k (fun e => hne (by rw [e]))⟩
theorem Kx.of_grown {X : Nat → Prop} {w w' : World} {row : Option Nat} (hg : w.grownBy w' row) (hr : ∀ k, row = some k → ¬ X k) : Kx X w w' := Turn.of_grown hg hr
/-- At block p there is the Wal x of the disk d at g; none of it is in X. -/
structure Wq (X : Nat → Prop) (w : World) (p g : Nat) (d : DS) (x : WS) : Prop where
  q : Dq (fun k => X k ∨ k = p) w g d
  row : Row w p 86 #[.pointer (some ⟨g, 0, none⟩), .int .i64 x.G, .int .i64 x.K, .bool x.bad]
  apart : ¬ X p
section
variable {X Y : Nat → Prop} {w w' w2 : World} {p g gb : Nat} {d d' : DS} {x y : WS}
theorem Wq.below (h : Wq X w p g d x) (hb : Below w.heap.size w w') : Wq X w' p g d x := ⟨h.q.below hb, h.row.below hb h.row.lt, h.apart⟩
theorem Wq.turn (h : Wq X w p g d x) (hq : Dq (fun k => X k ∨ k = p) w' g d') (hk : Kx (fun k => X k ∨ k = p) w w') : Wq X w' p g d' x ∧ Kx X w w' :=
  ⟨⟨hq, h.row.same (hk.same (.inr rfl) h.row.lt), h.apart⟩, hk.mono fun _ hx => .inl hx⟩
theorem Wq.less (h : Wq X w p g d x) (hs : ∀ k, Y k → X k) : Wq Y w p g d x := ⟨h.q.less fun k hk => hk.imp (hs k) id, h.row, fun hk => h.apart (hs _ hk)⟩
theorem Wq.more (h : Wq X w p g d x) (hb : Below w.heap.size w w') (hY : ∀ k, Y k → X k ∨ (w.heap.size ≤ k ∧ k < w'.heap.size)) : Wq Y w' p g d x :=
  ⟨h.q.more hb fun k hk => by
      rcases hk with hk | hk
      · exact (hY k hk).imp .inl id
      · exact .inl (.inr hk),
    h.row.below hb h.row.lt, fun hk => by
      rcases hY _ hk with z | z
      · exact h.apart z
      · have := h.row.lt; omega⟩
theorem Wq.cells (h : Wq X w p g d x) : w.cell? ⟨p, 0, none⟩ = some (.pointer (some ⟨g, 0, none⟩)) ∧ w.cell? ⟨p, 1, none⟩ = some (.int .i64 x.G) ∧ w.cell? ⟨p, 2, none⟩ = some (.int .i64 x.K) ∧ w.cell? ⟨p, 3, none⟩ = some (.bool x.bad) :=
  ⟨h.row.cell 0, h.row.cell 1, h.row.cell 2, h.row.cell 3⟩
theorem Wq.bad (h : Wq X w p g d x) (b : Bool) : Wq X (w.setCell ⟨p, 3, none⟩ (.bool b)) p g d ⟨x.G, x.K, b⟩ ∧ Kx X w (w.setCell ⟨p, 3, none⟩ (.bool b)) :=
  ⟨⟨h.q.turned (grown_set w ⟨p, 3, none⟩ _) fun k e => .inr (by injection e with e; exact e.symm), h.row.put 3 _, h.apart⟩, Kx.of_grown (grown_set w ⟨p, 3, none⟩ _) fun k e => by injection e with e; subst e; exact h.apart⟩
theorem Wq.set_at (h : Wq X w p g d x) (G K : Nat) : Wq X ((w.setCell ⟨p, 1, none⟩ (.int .i64 G)).setCell ⟨p, 2, none⟩ (.int .i64 K)) p g d ⟨G, K, x.bad⟩ ∧ Kx X w ((w.setCell ⟨p, 1, none⟩ (.int .i64 G)).setCell ⟨p, 2, none⟩ (.int .i64 K)) := by
  have h1 := h.q.turned (grown_set w ⟨p, 1, none⟩ (.int .i64 G)) fun k e => .inr (by injection e with e; exact e.symm)
  have h2 := h1.turned (grown_set _ ⟨p, 2, none⟩ (.int .i64 K)) fun k e => .inr (by injection e with e; exact e.symm)
  have ap : ∀ k, some p = some k → ¬ X k := fun k e => by injection e with e; subst e; exact h.apart
  exact ⟨⟨h2, (h.row.put 1 _).put 2 _, h.apart⟩, (Kx.of_grown (grown_set w ⟨p, 1, none⟩ _) ap).trans (Kx.of_grown (grown_set _ ⟨p, 2, none⟩ _) ap)⟩
/-- What an operation's walk holds on to: the Wal, apart from X and from a segment's block of its own. -/
structure Wt (X : Nat → Prop) (w w' : World) (p g : Nat) (d : DS) (x : WS) (gb : Nat) (cs : Array Value) : Prop where
  q : Wq (fun k => X k ∨ k = gb) w' p g d x
  k : Kx X w w'
  box : Row w' gb 80 cs
theorem Wt.start (h : Wq X w p g d x) (cs : Array Value) : Wt X w (w.alloc (.cells cs 80)) p g d x w.heap.size cs := by
  have hb := (Below.refl w.heap.size w).alloc (Nat.le_refl _) (.cells cs 80)
  exact ⟨h.more hb fun k hk => hk.imp id fun e => by subst e; exact ⟨Nat.le_refl _, by simp⟩, Kx.of_below hb, Row.new w _ cs⟩
variable {cs : Array Value}
theorem Wt.below (h : Wt X w w' p g d x gb cs) (hb : Below w'.heap.size w' w2) : Wt X w w2 p g d x gb cs := ⟨h.q.below hb, h.k.trans (Kx.of_below hb), h.box.below hb h.box.lt⟩
theorem Wt.turn (h : Wt X w w' p g d x gb cs) (hq : Wq (fun k => X k ∨ k = gb) w2 p g d' y) (hk : Kx (fun k => X k ∨ k = gb) w' w2) : Wt X w w2 p g d' y gb cs :=
  ⟨hq, h.k.trans (hk.mono fun _ hx => .inl hx), h.box.same (hk.same (.inr rfl) h.box.lt)⟩
theorem Wt.done (h : Wt X w w' p g d x gb cs) : Wq X w' p g d x ∧ Kx X w w' := ⟨h.q.less fun _ hk => .inl hk, h.k⟩
def WqP (X : Nat → Prop) (w : World) (p g : Nat) (v : Int) (d : DS) (x : WS) (e : Ending) (w' : World) : Prop := e = .returned (.int .i64 v) ∧ Wq X w' p g d x ∧ Kx X w w'
end
set_option maxRecDepth 100000 in
set_option maxHeartbeats 1000000 in
theorem where_any {X : Nat → Prop} {p g : Nat} {d : DS} {x : WS} {w : World} (h : Wq X w p g d x) :
    Calls Tryz.prog 15 #[.pointer (some ⟨p, 0, none⟩)] w fun e w' => e = .returned (.tuple #[.int .i64 x.G, .int .i64 x.K]) ∧ Below w.heap.size w w' := by
  obtain ⟨c0, c1, c2, c3⟩ := h.cells
  have hb := hide (Below.refl w.heap.size w)
  clear h
  go_enter Tryz.func15, Tryz.ntmps15
  go_upto_region 1 with (fail)
  go_quiet (fail)
  go_wp2
  exact bodyPost_ret (results_tmp2 rfl _ _ _) rfl ⟨rfl, below_drewN' (Below.refl w.heap.size w) _⟩
set_option maxRecDepth 100000 in
set_option maxHeartbeats 1000000 in
theorem noted_any {X : Nat → Prop} {p g : Nat} {d : DS} {x : WS} {w : World} (v : Int) (h : Wq X w p g d x) :
    Calls Tryz.prog 83 #[.pointer (some ⟨p, 0, none⟩), .int .i64 v] w (WqP X w p g v d ⟨x.G, x.K, v != 0⟩) := by
  have hb := hide (h.bad (v != 0))
  obtain ⟨c0, c1, c2, c3⟩ := h.cells
  have hf := h.row.free 3
  clear h
  go_enter Tryz.func83, Tryz.ntmps83
  go_wp2
  go_ret
  exact ⟨rfl, hb.out⟩
set_option maxRecDepth 100000 in
set_option maxHeartbeats 1000000 in
theorem write_any {X : Nat → Prop} {p g G K n c : Nat} {d : DS} {x : WS} {w : World} {A : Option Addr} {zs : List Int} (h : Wq X w p g d x) (hx : x.bad = false) (hG : G < 100) (hK : K < 100) (hm : zs.length = n) (hc : A = none → c = 0)
    (hl : Lies w A zs) (hX : InX X A zs) (hz : Octets zs) (hln : d.l.length ≤ 100) :
    Calls Tryz.prog 43 #[.pointer (some ⟨p, 0, none⟩), .agg #[.int .i64 G, .int .i64 K], .slice A n c] w (WqP X w p g (wrE d (segN G K) zs) (wrS d (segN G K) zs) ⟨x.G, x.K, wrB d (segN G K) zs⟩) := by
  have T := hide (Wt.start h #[.int .i64 G, .int .i64 K])
  have hn := hide (fun (w : World) => name_any G K w hG hK)
  have hsz := segN_size G K
  have hap := hide (fun (w2 : World) (T : Wt X w w2 p g d x w.heap.size #[.int .i64 G, .int .i64 K]) =>
    (append_q (nm := segN G K) (A := A) (n := n) (c := c) (zs := zs) T.q.q (by omega) hm hc (hl.kx T.k hX) (fun h0 a ha => .inl (.inl (hX h0 a ha))) hz (by omega)).mono
      (R' := fun e w3 => e = .returned (.int .i64 (appE d (segN G K) zs)) ∧ Wt X w w3 p g (appS d (segN G K) zs) x w.heap.size #[.int .i64 G, .int .i64 K]) fun e w3 ⟨h1, h2, h3⟩ => ⟨h1, T.turn (T.q.turn h2 h3).1 (T.q.turn h2 h3).2⟩)
  have hsy := hide (fun (w2 : World) (T : Wt X w w2 p g (appS d (segN G K) zs) x w.heap.size #[.int .i64 G, .int .i64 K]) =>
    (sync_q (nm := segN G K) T.q.q (by unfold maxLen; omega)).mono
      (R' := fun e w3 => e = .returned (.int .i64 (synE (appS d (segN G K) zs) (segN G K))) ∧ Wt X w w3 p g (synS (appS d (segN G K) zs) (segN G K)) x w.heap.size #[.int .i64 G, .int .i64 K]) fun e w3 ⟨h1, h2, h3⟩ => ⟨h1, T.turn (T.q.turn h2 h3).1 (T.q.turn h2 h3).2⟩)
  have hno := hide (fun (w2 : World) (v : Int) (d2 : DS) (T : Wt X w w2 p g d2 x w.heap.size #[.int .i64 G, .int .i64 K]) =>
    (noted_any v T.q).mono (R' := fun e w3 => e = .returned (.int .i64 v) ∧ Wt X w w3 p g d2 ⟨x.G, x.K, v != 0⟩ w.heap.size #[.int .i64 G, .int .i64 K]) fun e w3 ⟨h1, h2, h3⟩ => ⟨h1, T.turn h2 h3⟩)
  have hres := hide (show ∀ e w3, (∃ v d2 b, e = .returned (.int .i64 v) ∧ (v, d2, b) = (if appE d (segN G K) zs = 7 then (appE d (segN G K) zs, appS d (segN G K) zs, false) else if appE d (segN G K) zs = 0 then (synE (appS d (segN G K) zs) (segN G K), synS (appS d (segN G K) zs) (segN G K), synE (appS d (segN G K) zs) (segN G K) != 0) else (appE d (segN G K) zs, appS d (segN G K) zs, true)) ∧ Wt X w w3 p g d2 ⟨x.G, x.K, b⟩ w.heap.size #[.int .i64 G, .int .i64 K]) → WqP X w p g (wrE d (segN G K) zs) (wrS d (segN G K) zs) ⟨x.G, x.K, wrB d (segN G K) zs⟩ e w3 from by
    rintro e w3 ⟨v, d2, b, rfl, hv, T⟩
    unfold WqP wrB wrE wrS
    by_cases h7 : appE d (segN G K) zs = 7
    · rw [if_pos h7] at hv
      simp only [Prod.mk.injEq] at hv
      obtain ⟨rfl, rfl, rfl⟩ := hv
      rw [if_pos (by rw [h7]; decide), if_pos (by rw [h7]; decide)]
      exact ⟨rfl, by simpa [h7] using T.done.1, T.done.2⟩
    · rw [if_neg h7] at hv
      by_cases h0 : appE d (segN G K) zs = 0
      · rw [if_pos h0] at hv
        simp only [Prod.mk.injEq] at hv
        obtain ⟨rfl, rfl, rfl⟩ := hv
        rw [if_neg (by rw [h0]; decide), if_neg (by rw [h0]; decide)]
        refine ⟨rfl, ?_, T.done.2⟩
        have := T.done.1
        rw [h0]
        by_cases h1 : synE (appS d (segN G K) zs) (segN G K) = 0
        · simpa [h1] using this
        · rw [show (synE (appS d (segN G K) zs) (segN G K) != 0) = true from by simp [h1]] at this
          simpa [h1] using this
      · rw [if_neg h0] at hv
        simp only [Prod.mk.injEq] at hv
        obtain ⟨rfl, rfl, rfl⟩ := hv
        rw [if_pos h0, if_pos h0]
        exact ⟨rfl, by simpa [h7, h0] using T.done.1, T.done.2⟩)
  clear h
  generalize appE d (segN G K) zs = ea at *
  generalize appS d (segN G K) zs = da at *
  generalize synE da (segN G K) = es at *
  generalize synS da (segN G K) = ds at *
  generalize segN G K = nm at *
  go_enter Tryz.func43, Tryz.ntmps43
  go_upto_region 1 with (fail)
  generalize hw1 : World.alloc _ _ = w1 at T ⊢
  clear hw1
  have QQ := hide (T.out.below ((Below.refl _ w1).drew))
  obtain ⟨z0, -, -, -⟩ := T.out.q.cells
  have z1 := T.out.box.cell 0
  have z2 := T.out.box.cell 1
  simp only [List.getElem?_toArray, List.getElem?_cons_zero, List.getElem?_cons_succ] at z1 z2
  have hS := hide (fun (w2 : World) (d2 : DS) (T : Wt X w w2 p g d2 x w.heap.size #[.int .i64 G, .int .i64 K]) => (⟨T.q.cells.1, T.box.cell 0, T.box.cell 1⟩ : w2.cell? ⟨p, 0, none⟩ = some (.pointer (some ⟨g, 0, none⟩)) ∧ w2.cell? ⟨w.heap.size, 0, none⟩ = some (.int .i64 G) ∧ w2.cell? ⟨w.heap.size, 1, none⟩ = some (.int .i64 K)))
  clear T
  go_region_held3 (fun w2 => w2.cell? ⟨p, 0, none⟩ = some (.pointer (some ⟨g, 0, none⟩)) ∧ w2.cell? ⟨w.heap.size, 0, none⟩ = some (.int .i64 G) ∧ w2.cell? ⟨w.heap.size, 1, none⟩ = some (.int .i64 K)) ((with_reducible exact hS.out _ _ QQ.out))
    (first
      | (go_at_call 79; (with_reducible refine (hn.out _).mono ?_); rintro e w2 ⟨rfl, hb⟩; (have QN := hide (QQ.out.below hb)); clear QQ hb; (have QQ := QN); clear QN)
      | (go_at_call 30; (with_reducible refine (hap.out _ QQ.out).mono ?_); rintro e w2 ⟨rfl, hT⟩; (have QN := hide hT); clear QQ hT; (have QQ := QN); clear QN))
  all_goals
    clear z0 z1 z2
  by_cases h7 : ea = 7
  · subst h7
    have hret := hide (hres.out _ _ ⟨7, da, x.bad, rfl, by rw [if_pos rfl, hx], QQ.out⟩)
    clear hres
    go_wp2
    go_ret
    exact hret.out
  · have t7 : (ea == 7) = false := by simp [h7]
    by_cases h0 : ea = 0
    · subst h0
      go_upto_region 5 with (fail)
      obtain ⟨z0, z1, z2⟩ := hS.out _ _ QQ.out
      have QD := hide (QQ.out.below (Below.refl _ _).drew)
      clear QQ
      have QQ := QD
      clear QD
      go_region_held3 (fun w2 => w2.cell? ⟨p, 0, none⟩ = some (.pointer (some ⟨g, 0, none⟩)) ∧ w2.cell? ⟨w.heap.size, 0, none⟩ = some (.int .i64 G) ∧ w2.cell? ⟨w.heap.size, 1, none⟩ = some (.int .i64 K)) ((with_reducible exact hS.out _ _ QQ.out))
        (first
          | (go_at_call 79; (with_reducible refine (hn.out _).mono ?_); rintro e w2 ⟨rfl, hb⟩; (have QN := hide (QQ.out.below hb)); clear QQ hb; (have QQ := QN); clear QN)
          | (go_at_call 81; (with_reducible refine (hsy.out _ QQ.out).mono ?_); rintro e w2 ⟨rfl, hT⟩; (have QN := hide hT); clear QQ hT; (have QQ := QN); clear QN))
      all_goals
        clear z0 z1 z2
        have hret := hide (fun w3 (T3 : Wt X w w3 p g ds ⟨x.G, x.K, es != 0⟩ w.heap.size #[.int .i64 G, .int .i64 K]) => hres.out (.returned (.int .i64 es)) w3 ⟨es, ds, es != 0, rfl, by simp, T3⟩)
        go_wp2_with (go_at_call 83; (with_reducible refine (hno.out _ es ds QQ.out).mono ?_); rintro e w3 ⟨rfl, hT⟩)
        go_ret
        exact hret.out _ hT
    · have t0 : (ea == 0) = false := by simp [h0]
      have hret := hide (fun w3 (T3 : Wt X w w3 p g da ⟨x.G, x.K, ea != 0⟩ w.heap.size #[.int .i64 G, .int .i64 K]) => hres.out (.returned (.int .i64 ea)) w3 ⟨ea, da, ea != 0, rfl, by rw [if_neg h7, if_neg h0, show (ea != 0) = true from by simp [h0]], T3⟩)
      clear h0 h7
      go_wp2_with (go_at_call 83; (with_reducible refine (hno.out _ ea da QQ.out).mono ?_); rintro e w3 ⟨rfl, hT⟩)
      go_ret
      exact hret.out _ hT
set_option maxRecDepth 100000 in
set_option maxHeartbeats 1000000 in
theorem next_any {X : Nat → Prop} {p g : Nat} {d : DS} {x : WS} {w : World} (h : Wq X w p g d x) (hG : 1 ≤ x.G ∧ x.G < 100) (hK : x.K < 99) :
    Calls Tryz.prog 42 #[.pointer (some ⟨p, 0, none⟩)] w fun e w' => e = .returned (.agg #[.int .i64 x.G, .int .i64 (nextK d x : Nat)]) ∧ Below w.heap.size w w' := by
  have T := hide (Wt.start h #[Value.int .i64 0, Value.int .i64 0])
  have B := hide ((Below.refl w.heap.size w).alloc (Nat.le_refl _) (.cells #[Value.int .i64 0, Value.int .i64 0] 80))
  have hln := hide (fun (w2 : World) (T : Wt X w w2 p g d x w.heap.size #[Value.int .i64 0, Value.int .i64 0]) => (sread_any x.G x.K hG (by omega) T.q.q).mono (R' := fun e w3 => ∃ A c, e = .returned (.tuple #[.slice A (datO (find (segN x.G x.K) d.l)).length c, .bool (find (segN x.G x.K) d.l).isSome]) ∧ Below w2.heap.size w2 w3) fun e w3 ⟨A, c, h1, h2, h3⟩ => ⟨A, c, h1, h3⟩)
  have hnl := hide (show (datO (find (segN x.G x.K) d.l)).length ≤ 1048576 from by
    cases hf : find (segN x.G x.K) d.l with
    | none => simp [datO]
    | some f => exact flen h.q.ok (find_mem hf).1)
  have hnk := hide (show nextK d x = if 4096 < (datO (find (segN x.G x.K) d.l)).length ∧ x.K < most then x.K + 1 else x.K from rfl)
  have hlt := h.row.lt
  clear h
  generalize (datO (find (segN x.G x.K) d.l)).length = n at *
  generalize (find (segN x.G x.K) d.l).isSome = t at *
  go_enter Tryz.func42, Tryz.ntmps42
  go_upto_region 1 with (fail)
  generalize hw1 : World.alloc _ _ = w1 at T B ⊢
  clear hw1
  have QQ := hide (T.out.below ((Below.refl _ w1).drew))
  have BB := hide (B.out.drew)
  have hS := hide (fun (w2 : World) (T : Wt X w w2 p g d x w.heap.size #[.int .i64 0, .int .i64 0]) => (⟨T.q.cells.1, T.q.cells.2.1, T.q.cells.2.2.1⟩ : w2.cell? ⟨p, 0, none⟩ = some (.pointer (some ⟨g, 0, none⟩)) ∧ w2.cell? ⟨p, 1, none⟩ = some (.int .i64 x.G) ∧ w2.cell? ⟨p, 2, none⟩ = some (.int .i64 x.K)))
  obtain ⟨z0, z1, z2⟩ := hS.out _ T.out
  clear T B
  go_region_held3 (fun w2 => w2.cell? ⟨p, 0, none⟩ = some (.pointer (some ⟨g, 0, none⟩)) ∧ w2.cell? ⟨p, 1, none⟩ = some (.int .i64 x.G) ∧ w2.cell? ⟨p, 2, none⟩ = some (.int .i64 x.K)) ((with_reducible exact hS.out _ QQ.out))
    (first | (go_at_call 82; (with_reducible refine (hln.out _ QQ.out).mono ?_); rintro e w2 ⟨A, c, rfl, hb⟩; (have QN := hide (QQ.out.below hb)); (have BN := hide (kept_trans BB.out hb)); clear QQ hb BB; (have QQ := QN); (have BB := BN); clear QN BN))
  all_goals
    clear z0 z1 z2
    obtain ⟨z0, z1, z2⟩ := hS.out _ QQ.out
    have q0 := QQ.out.box.cell 0
    have q1 := QQ.out.box.cell 1
    have f0 := QQ.out.box.free 0
    have f1 := QQ.out.box.free 1
    simp only [List.getElem?_toArray, List.getElem?_cons_zero, List.getElem?_cons_succ] at q0 q1
    have hf := QQ.out.box.lt
    have hR := hide (fun (a b : Value) => (QQ.out.box.put 0 a).put 1 b)
    have hB := hide (fun (a b : Value) => (BB.out.setCell (Nat.le_refl w.heap.size) (p := ⟨w.heap.size, 0, none⟩) a).setCell (Nat.le_refl w.heap.size) (p := ⟨w.heap.size, 1, none⟩) b)
    have t5 : decide ((x.K : Int) < 999999999) = true := by simp; omega
    have t6 : decide (x.K < 999999999) = true := by simp; omega
    clear QQ BB
    by_cases h4 : 4096 < n
    · have t1 : decide ((4096 : Int) < (n : Int)) = true := by simp; omega
      have t2 : decide (4096 < n) = true := by simp; omega
      have hres := hide (show nextK d x = x.K + 1 by rw [hnk.out, if_pos ⟨h4, by unfold most; omega⟩])
      have hwk : IntKind.i64.wrap ((x.K : Int) + 1) = (x.K : Int) + 1 := by rw [IntKind.wrap_i64]; omega
      clear h4
      go_upto_region 3 with (fail)
      go_region
      all_goals
        go_wp2
        have R := (hR.out (.int .i64 x.G) (.int .i64 ((x.K : Int) + 1))).drew
        exact bodyPost_ret (res_seg Tryz.results42 rfl (R.cell 0) (R.cell 1)) rfl ⟨by rw [hres.out]; rfl, (hB.out _ _).drew⟩
    · have t1 : decide ((4096 : Int) < (n : Int)) = false := by simp; omega
      have t2 : decide (4096 < n) = false := by simp; omega
      have hres := hide (show nextK d x = x.K by rw [hnk.out, if_neg (fun h => h4 h.1)])
      clear h4
      go_wp2
      have R := hR.out (.int .i64 x.G) (.int .i64 (x.K : Int))
      exact bodyPost_ret (res_seg Tryz.results42 rfl (R.cell 0) (R.cell 1)) rfl ⟨by rw [hres.out]; rfl, hB.out _ _⟩
end Go.Proofs.YtkmcnhjfnjikaaaGreatDoor
/- What package wal's drop comes to: the segments of a generation are removed, one after the other. Conditions: the disk lies in memory as it must, has few files. -/
namespace Go.Proofs.YtkmcnhjfnjikaaaGreatDoor
open Go.RowKit Go.Maps
theorem Wt.next {X : Nat → Prop} {w w' : World} {p g gb : Nat} {d : DS} {x : WS} {cs : Array Value} (h : Wt X w w' p g d x gb cs) (cs' : Array Value) : Wt X w (w'.alloc (.cells cs' 80)) p g d x w'.heap.size cs' := by
  have h1 := Wt.start (h.q.less fun k hk => .inl hk : Wq X w' p g d x) cs'
  exact ⟨h1.q, h.k.trans h1.k, h1.box⟩
/-- How far drop came: what is left to remove, from k on. -/
structure Dr (l : List Fl) (g f k : Nat) (r : Int × DS) (dk : DS) : Prop where
  k1 : 1 ≤ k
  have' : ∀ j, 1 ≤ j → j < k → (find (segN g j) l).isSome = true
  same : ∀ j, k ≤ j → j < 100 → find (segN g j) dk.l = find (segN g j) l
  rest : remL (dropL l g (f + 1 - k) k) dk = r
theorem Dr.start (l : List Fl) (g f : Nat) (d : DS) (hl : d.l = l) : Dr l g f 1 (remL (dropL l g f 1) d) d := ⟨Nat.le_refl _, fun j h1 h2 => by omega, fun j _ _ => by rw [hl], by simp⟩
theorem Dr.le {l : List Fl} {g f k : Nat} {r : Int × DS} {dk : DS} (h : Dr l g f k r dk) (hu : Up l) (hg : 1 ≤ g ∧ g < 100) (hl : l.length ≤ 90) : k ≤ l.length + 1 := by
  have h1 := h.k1
  rcases Nat.lt_or_ge k 92 with h2 | h2
  · have := found_le hg (k := k - 1) hu (by omega) fun j h3 h4 => h.have' j h3 (by omega)
    omega
  · have := found_le hg (k := 91) hu (by omega) fun j h3 h4 => h.have' j h3 (by omega)
    omega
theorem Dr.none {l : List Fl} {g f k : Nat} {r : Int × DS} {dk : DS} (h : Dr l g f k r dk) (hk : k < 100) (hn : find (segN g k) dk.l = none) : r = (0, dk) := by
  rw [h.same k (Nat.le_refl _) hk] at hn
  rw [← h.rest]
  cases hf : f + 1 - k with
  | zero => rfl
  | succ n => unfold dropL; rw [hn]; rfl
theorem Dr.some {l : List Fl} {g f k : Nat} {r : Int × DS} {dk : DS} (h : Dr l g f k r dk) (hg : 1 ≤ g ∧ g < 100) (hk : k < 99) (hf : k ≤ f) {y : Fl} (hn : find (segN g k) dk.l = some y) :
    (remE dk (segN g k) ≠ 0 → r = (remE dk (segN g k), remS dk (segN g k))) ∧ (remE dk (segN g k) = 0 → Dr l g f (k + 1) r (remS dk (segN g k))) := by
  have hn' := hn
  have h1 := h.k1
  rw [h.same k (Nat.le_refl _) (by omega)] at hn'
  obtain ⟨n, hfn⟩ : ∃ n, f + 1 - k = n + 1 := ⟨f - k, by omega⟩
  have hrest := h.rest
  rw [hfn] at hrest
  unfold dropL at hrest
  rw [hn', if_pos (show (Option.some y).isSome = true from rfl), remL_cons] at hrest
  refine ⟨fun he => ?_, fun he => ?_⟩
  · rw [if_neg he] at hrest; exact hrest.symm
  · rw [if_pos he] at hrest
    refine ⟨by omega, fun j h2 h3 => ?_, fun j h2 h3 => ?_, by rw [show f + 1 - (k + 1) = n by omega]; exact hrest⟩
    · rcases Nat.lt_or_ge j k with h4 | h4
      · exact h.have' j h2 h4
      · obtain rfl : j = k := by omega
        rw [hn']; rfl
    · rw [← h.same j (by omega) h3]
      have hne : segN g j ≠ segN g k := fun e => by
        have := segN_inj hg ⟨by omega, h3⟩ hg ⟨h1, by omega⟩ e
        omega
      have hy : (find (segN g k) dk.l).isNone = false := by rw [hn]; rfl
      unfold remE at he
      unfold remS
      rw [hn]
      cases ho : dk.off with
      | true => rw [ho] at he; simp at he
      | false =>
        rw [ho, hy] at he
        by_cases h0 : dk.left = 0
        · simp [h0] at he
        · simp only [if_neg h0, Bool.false_eq_true, if_false]
          rw [find_delF, if_neg hne]
def anD' (d : DS) (g f : Nat) : Int × DS := remL (if g = 0 then [] else dropL d.l g f 1) d
set_option maxRecDepth 100000 in
set_option maxHeartbeats 2000000 in
theorem drop_any {X : Nat → Prop} {p g G f : Nat} {d : DS} {x : WS} {w : World} (h : Wq X w p g d x) (hx : x.bad = false) (hG : 1 ≤ G ∧ G < 100) (hl : d.l.length ≤ 90) (hf : d.l.length + 1 ≤ f) :
    Calls Tryz.prog 47 #[.pointer (some ⟨p, 0, none⟩), .int .i64 G] w (fun e w' => WqP X w p g (remL (dropL d.l G f 1) d).1 (remL (dropL d.l G f 1) d).2 ⟨x.G, x.K, (remL (dropL d.l G f 1) d).1 != 0⟩ e w') := by
  have hu := hide h.q.ok.up
  have hdr := hide (Dr.start d.l G f d rfl)
  have T := hide (Wt.start h #[.int .i64 G, .int .i64 1])
  have hpl := h.row.lt
  clear h
  generalize remL (dropL d.l G f 1) d = r at *
  have hrd := hide (fun (k : Nat) (hk : k < 100) (w2 : World) (d2 : DS) (sb : Nat) (cs : Array Value) (T : Wt X w w2 p g d2 x sb cs) => (sread_any G k hG hk T.q.q).mono (R' := fun e w3 => ∃ A n c, e = .returned (.tuple #[.slice A n c, .bool (find (segN G k) d2.l).isSome]) ∧ Below w2.heap.size w2 w3) fun e w3 ⟨A, c, h1, h2, h3⟩ => ⟨A, _, c, h1, h3⟩)
  have hnm := hide (fun (k : Nat) (hk : k < 100) (w : World) => name_any G k w hG.2 hk)
  have hrm := hide (fun (k : Nat) (w2 : World) (d2 : DS) (sb : Nat) (cs : Array Value) (T : Wt X w w2 p g d2 x sb cs) => (remove_q (nm := segN G k) T.q.q (by have := segN_size G k; unfold maxLen; omega)).mono
    (R' := fun e w3 => e = .returned (.int .i64 (remE d2 (segN G k))) ∧ Wt X w w3 p g (remS d2 (segN G k)) x sb cs) fun e w3 ⟨h1, h2, h3⟩ => ⟨h1, T.turn (T.q.turn h2 h3).1 (T.q.turn h2 h3).2⟩)
  have hno := hide (fun (w2 : World) (v : Int) (d2 : DS) (sb : Nat) (cs : Array Value) (T : Wt X w w2 p g d2 x sb cs) =>
    (noted_any v T.q).mono (R' := fun e w3 => e = .returned (.int .i64 v) ∧ Wt X w w3 p g d2 ⟨x.G, x.K, v != 0⟩ sb cs) fun e w3 ⟨h1, h2, h3⟩ => ⟨h1, T.turn h2 h3⟩)
  have hS := hide (fun (w2 : World) (d2 : DS) (sb k : Nat) (y : WS) (T : Wt X w w2 p g d2 y sb #[.int .i64 G, .int .i64 k]) => (⟨T.q.cells.1, T.box.cell 0, T.box.cell 1⟩ : w2.cell? ⟨p, 0, none⟩ = some (.pointer (some ⟨g, 0, none⟩)) ∧ w2.cell? ⟨sb, 0, none⟩ = some (.int .i64 G) ∧ w2.cell? ⟨sb, 1, none⟩ = some (.int .i64 k)))
  go_enter Tryz.func47, Tryz.ntmps47
  go_wp2
  go_loopw [5] (fun sv wr => ∃ (k sb : Nat) (dk : DS), sv = .pointer (some ⟨sb, 0, none⟩) ∧ Hid (Dr d.l G f k r dk) ∧ Hid (Wt X w wr p g dk x sb #[.int .i64 G, .int .i64 k])) (fun sv wr => 200 - segNum wr sv)
  case atStart => exact ⟨1, w.heap.size, d, rfl, hdr, T⟩
  case round =>
    obtain ⟨k, sb, dk, rfl, hdr, T⟩ := hrel
    have hkl := hdr.out.le hu.out hG hl
    have hmeas := hide (segNum_row T.out.box)
    go_upto_region 3 with (fail)
    have hrd1 := hide (fun (w2 : World) (T : Wt X w w2 p g dk x sb #[.int .i64 G, .int .i64 k]) => hrd.out k (by omega) w2 dk sb _ T)
    have QQ := hide (T.out.below ((Below.refl _ wr).drew))
    obtain ⟨z0, z1, z2⟩ := hS.out _ _ _ _ _ T.out
    clear T
    cases hfd : find (segN G k) dk.l with
    | none =>
      have hr := hide (hdr.out.none (by omega) hfd)
      rw [hfd] at hrd1
      clear hdr hfd
      go_region_held3 (fun w2 => w2.cell? ⟨p, 0, none⟩ = some (.pointer (some ⟨g, 0, none⟩)) ∧ w2.cell? ⟨sb, 0, none⟩ = some (.int .i64 G) ∧ w2.cell? ⟨sb, 1, none⟩ = some (.int .i64 k)) ((with_reducible exact hS.out _ _ _ _ _ QQ.out))
        (first | (go_at_call 82; (with_reducible refine (hrd1.out _ QQ.out).mono ?_); rintro e w2 ⟨A, n, c, rfl, hb⟩; (have QN := hide (QQ.out.below hb)); clear QQ hb; (have QQ := QN); clear QN))
      all_goals
        clear z0 z1 z2
        have hret := hide (show WqP X w p g r.1 r.2 ⟨x.G, x.K, r.1 != 0⟩ (.returned (.int .i64 0)) _ from by rw [hr.out]; exact ⟨rfl, by have := QQ.out.done.1; rw [show x = ⟨x.G, x.K, false⟩ from by rw [← hx]] at this; exact this, QQ.out.done.2⟩)
        go_wp2
        go_ret
        exact hret.out
    | some y =>
      have hsm := hide (hdr.out.some hG (by omega) (by omega) hfd)
      rw [hfd] at hrd1
      clear hdr hfd
      have hnm1 := hide (hnm.out k (by omega))
      have hrm1 := hide (fun (w2 : World) (T : Wt X w w2 p g dk x sb #[.int .i64 G, .int .i64 k]) => hrm.out k w2 dk sb _ T)
      generalize remE dk (segN G k) = er at *
      generalize remS dk (segN G k) = dr at *
      generalize segN G k = nm at *
      have hno1 := hide (fun (w2 : World) (T : Wt X w w2 p g dr x sb #[.int .i64 G, .int .i64 k]) => hno.out w2 er dr sb _ T)
      go_region_held3 (fun w2 => w2.cell? ⟨p, 0, none⟩ = some (.pointer (some ⟨g, 0, none⟩)) ∧ w2.cell? ⟨sb, 0, none⟩ = some (.int .i64 G) ∧ w2.cell? ⟨sb, 1, none⟩ = some (.int .i64 k)) ((with_reducible exact hS.out _ _ _ _ _ QQ.out))
        (first | (go_at_call 82; (with_reducible refine (hrd1.out _ QQ.out).mono ?_); rintro e w2 ⟨A, n, c, rfl, hb⟩; (have QN := hide (QQ.out.below hb)); clear QQ hb; (have QQ := QN); clear QN))
      all_goals
        clear z0 z1 z2
        go_upto_region 6 with (fail)
        obtain ⟨z0, z1, z2⟩ := hS.out _ _ _ _ _ QQ.out
        have QD := hide (QQ.out.below (Below.refl _ _).drew)
        clear QQ
        have QQ := QD
        clear QD
        go_region_held3 (fun w2 => w2.cell? ⟨p, 0, none⟩ = some (.pointer (some ⟨g, 0, none⟩)) ∧ w2.cell? ⟨sb, 0, none⟩ = some (.int .i64 G) ∧ w2.cell? ⟨sb, 1, none⟩ = some (.int .i64 k)) ((with_reducible exact hS.out _ _ _ _ _ QQ.out))
          (first
            | (go_at_call 79; (with_reducible refine (hnm1.out _).mono ?_); rintro e w2 ⟨rfl, hb⟩; (have QN := hide (QQ.out.below hb)); clear QQ hb; (have QQ := QN); clear QN)
            | (go_at_call 80; (with_reducible refine (hrm1.out _ QQ.out).mono ?_); rintro e w2 ⟨rfl, hT⟩; (have QN := hide hT); clear QQ hT; (have QQ := QN); clear QN)
            | (go_at_call 83; (with_reducible refine (hno1.out _ QQ.out).mono ?_); rintro e w2 ⟨rfl, hT⟩; (have QN := hide hT); clear QQ hT; (have QQ := QN); clear QN))
        all_goals
          clear z0 z1 z2
          by_cases hez : er = 0
          · have e1 : (er != 0) = false := by simp [hez]
            have hdr2 := hide (hsm.out.2 hez)
            have QR := hide (show Wt X w _ p g dr x sb #[.int .i64 G, .int .i64 k] from by have := QQ.out; rw [e1, show (⟨x.G, x.K, false⟩ : WS) = x from by rw [← hx]] at this; exact this)
            obtain ⟨z0, z1, z2⟩ := hS.out _ _ _ _ _ QR.out
            have hwk : IntKind.i64.wrap ((k : Int) + 1) = (k : Int) + 1 := by rw [IntKind.wrap_i64]; omega
            have hnx := hide (QR.out.next #[.int .i64 G, .int .i64 ((k : Int) + 1)])
            have hm4 := hide (segNum_row (k := k + 1) (hnx.out.box))
            clear hez hsm QQ
            go_wp2
            go_roundw
            case rel => exact ⟨k + 1, _, dr, rfl, hdr2, hnx⟩
            case measure =>
              rw [hm4.out, hmeas.out]
              omega
          · have e1 : (er != 0) = true := by simp [hez]
            have hret := hide (show WqP X w p g r.1 r.2 ⟨x.G, x.K, r.1 != 0⟩ (.returned (.int .i64 er)) _ from by rw [hsm.out.1 hez]; exact ⟨rfl, QQ.out.done⟩)
            clear hez hsm
            go_wp2
            go_ret
            exact hret.out
end Go.Proofs.YtkmcnhjfnjikaaaGreatDoor
