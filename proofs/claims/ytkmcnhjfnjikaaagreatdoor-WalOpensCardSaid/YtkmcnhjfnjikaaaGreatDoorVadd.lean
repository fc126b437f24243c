/- What package wal's Add comes to, and drop of no generation. Conditions: the disk lies in memory as it must, has few files; the records have room. -/
import Derived.Test.YtkmcnhjfnjikaaaGreatDoorVobj
import Derived.Test.YtkmcnhjfnjikaaaGreatDoorKpre
import Derived.Test.YtkmcnhjfnjikaaaGreatDoorKbas
import Derived.Test.YtkmcnhjfnjikaaaGreatDoorKtwi
namespace Go.Proofs.YtkmcnhjfnjikaaaGreatDoor
open Go.RowKit Go.Maps
set_option maxRecDepth 100000 in
set_option maxHeartbeats 2000000 in
theorem drop_none {X : Nat → Prop} {p g : Nat} {d : DS} {x : WS} {w : World} (h : Wq X w p g d x) :
    Calls Tryz.prog 47 #[.pointer (some ⟨p, 0, none⟩), .int .i64 0] w (WqP X w p g 0 d x) := by
  have T := hide (Wt.start h #[.int .i64 0, .int .i64 1])
  have hpl := h.row.lt
  clear h
  have hrd : Hid (∀ w2 : World, Calls Tryz.prog 82 #[.agg #[.int .i64 0, .int .i64 1], .pointer (some ⟨g, 0, none⟩)] w2 fun e w' => e = .returned (.tuple #[.slice none 0 0, .bool false]) ∧ Below w2.heap.size w2 w') := hide (fun (w2 : World) => (sread_none 1 (some ⟨g, 0, none⟩) w2))
  have hS := hide (fun (w2 : World) (T : Wt X w w2 p g d x w.heap.size #[.int .i64 0, .int .i64 1]) => (⟨T.q.cells.1, T.box.cell 0, T.box.cell 1⟩ : w2.cell? ⟨p, 0, none⟩ = some (.pointer (some ⟨g, 0, none⟩)) ∧ w2.cell? ⟨w.heap.size, 0, none⟩ = some (.int .i64 0) ∧ w2.cell? ⟨w.heap.size, 1, none⟩ = some (.int .i64 1)))
  go_enter Tryz.func47, Tryz.ntmps47
  go_wp2
  go_loopw [5] (fun sv wr => sv = .pointer (some ⟨w.heap.size, 0, none⟩) ∧ Hid (Wt X w wr p g d x w.heap.size #[.int .i64 0, .int .i64 1])) (fun sv wr => 200 - segNum wr sv)
  case atStart => exact ⟨rfl, T⟩
  case round =>
    obtain ⟨rfl, T⟩ := hrel
    go_upto_region 3 with (fail)
    have QQ := hide (T.out.below ((Below.refl _ wr).drew))
    obtain ⟨z0, z1, z2⟩ := hS.out _ T.out
    clear T
    go_region_held3 (fun w2 => w2.cell? ⟨p, 0, none⟩ = some (.pointer (some ⟨g, 0, none⟩)) ∧ w2.cell? ⟨w.heap.size, 0, none⟩ = some (.int .i64 0) ∧ w2.cell? ⟨w.heap.size, 1, none⟩ = some (.int .i64 1)) ((with_reducible exact hS.out _ QQ.out))
      (first | (go_at_call 82; (with_reducible refine (hrd.out _).mono ?_); rintro e w2 ⟨rfl, hb⟩; (have QN := hide (QQ.out.below hb)); clear QQ hb; (have QQ := QN); clear QN))
    all_goals
      clear z0 z1 z2
      have hret := hide (show WqP X w p g 0 d x (.returned (.int .i64 0)) _ from ⟨rfl, QQ.out.done⟩)
      go_wp2
      go_ret
      exact hret.out
theorem Wt.start' {X : Nat → Prop} {w w2 : World} {p g : Nat} {d : DS} {x : WS} (h : Wq X w p g d x) (hb : Below w.heap.size w w2) (cs : Array Value) : Wt X w (w2.alloc (.cells cs 80)) p g d x w2.heap.size cs := by
  have h1 := Wt.start (h.below hb) cs
  exact ⟨h1.q, (Kx.of_below hb).trans h1.k, h1.box⟩
theorem Wt.data {X : Nat → Prop} {w w3 w4 : World} {p g gb n c : Nat} {d : DS} {x : WS} {cs : Array Value} {A : Option Addr} {zs : List Int} (T : Wt X w w3 p g d x gb cs) (ho : w4.ownsRow w3.heap.size 5 1 (.slice A n c) n (cellsOf zs)) (hb : Below w3.heap.size w3 w4) :
    Wq (fun k => (X k ∨ k = gb) ∨ ∃ a, A = some a ∧ a.block = k) w4 p g d x := T.q.more hb fun k hk => hk.imp id fun ⟨a, ha, e⟩ => by subst e; exact ⟨own_ge ho a ha, own_lt ho a ha⟩
theorem write_new {X : Nat → Prop} {w w3 w4 : World} {p g gb n c G K : Nat} {d : DS} {x : WS} {cs : Array Value} {A : Option Addr} {zs : List Int} (T : Wt X w w3 p g d x gb cs) (hx : x.bad = false) (hG : G < 100) (hK : K < 100) (hm : zs.length = n) (ho : w4.ownsRow w3.heap.size 5 1 (.slice A n c) n (cellsOf zs)) (hb : Below w3.heap.size w3 w4) (hz : Octets zs) (hln : d.l.length ≤ 100) :
    Calls Tryz.prog 43 #[.pointer (some ⟨p, 0, none⟩), .agg #[.int .i64 G, .int .i64 K], .slice A n c] w4 fun e w5 => e = .returned (.int .i64 (wrE d (segN G K) zs)) ∧ Wt X w w5 p g (wrS d (segN G K) zs) ⟨x.G, x.K, wrB d (segN G K) zs⟩ gb cs :=
  (write_any (T.data ho hb) hx hG hK hm (own_nil ho) (by have := Lies.of_own ho; exact this) (fun _ a ha => .inr ⟨a, ha, rfl⟩) hz hln).mono fun e w5 ⟨h1, h2, h3⟩ => ⟨h1, (T.below hb).turn (h2.less fun k hk => .inl hk) (h3.mono fun k hk => .inl hk)⟩
theorem wrB_false {d : DS} {nm : ByteArray} {zs : List Int} (h : wrE d nm zs = 0) : wrB d nm zs = false := by unfold wrB; simp [h]
theorem adE_refused {d : DS} {x : WS} {F : List (List Int)} (h : adR x F ≠ 0) : adE d x F = adR x F ∧ adS d x F = d ∧ adW d x F = x := by
  unfold adE adS adW
  rw [if_pos h, if_pos h, if_pos h]
  exact ⟨rfl, rfl, rfl⟩
theorem adE_none {d : DS} {x : WS} {F : List (List Int)} (h : adR x F = 0) (hF : F = []) : adE d x F = 0 ∧ adS d x F = d ∧ adW d x F = x := by
  unfold adE adS adW
  rw [if_neg (not_not_intro h), if_neg (not_not_intro h), if_neg (not_not_intro h), if_pos hF, if_pos hF, if_pos hF]
  exact ⟨rfl, rfl, rfl⟩
theorem adE_some {d : DS} {x : WS} {F : List (List Int)} (h : adR x F = 0) (hF : F ≠ []) : adE d x F = wrE d (segN x.G (nextK d x)) (enc F) ∧ adS d x F = wrS d (segN x.G (nextK d x)) (enc F) ∧
    adW d x F = if wrE d (segN x.G (nextK d x)) (enc F) = 0 then ⟨x.G, nextK d x, false⟩ else ⟨x.G, x.K, wrB d (segN x.G (nextK d x)) (enc F)⟩ := by
  unfold adE adS adW
  rw [if_neg (not_not_intro h), if_neg (not_not_intro h), if_neg (not_not_intro h), if_neg hF, if_neg hF, if_neg hF]
  exact ⟨rfl, rfl, rfl⟩
theorem WqP.of {X : Nat → Prop} {w w' : World} {p g : Nat} {v v' : Int} {d d' : DS} {x x' : WS} {e : Ending} (h : WqP X w p g v d x e w') (h1 : v' = v ∧ d' = d ∧ x' = x) : WqP X w p g v' d' x' e w' := by
  obtain ⟨rfl, rfl, rfl⟩ := h1; exact h
theorem nextK_le (d : DS) (x : WS) : nextK d x ≤ x.K + 1 := by unfold nextK; split <;> omega
set_option maxRecDepth 100000 in
set_option maxHeartbeats 2000000 in
theorem add_any {X Y : Nat → Prop} {p g n c : Nat} {d : DS} {x : WS} {w : World} {A : Option Addr} {F : List (List Int)} (h : Wq X w p g d x) (hG : x.G < 100) (hK : x.K < 99) (hln : d.l.length ≤ 90)
    (hr : Recs Y w A c F) (hY : ∀ k, Y k → X k) (hn : F.length = n) (hl : n ≤ 100000) (hs : ∀ q, q ∈ F → q.length ≤ 1000000) :
    Calls Tryz.prog 12 #[.pointer (some ⟨p, 0, none⟩), .slice A n c] w (WqP X w p g (adE d x F) (adS d x F) (adW d x F)) := by
  obtain ⟨c0, c1, c2, c3⟩ := h.cells
  have hpl := h.row.lt
  have hmay := hide (fun (w2 : World) (hb : Below w.heap.size w w2) => mayB_any (hr.below hb) hn hl hs)
  cases hb : x.bad with
  | true =>
    have hR : adR x F = 10 := by unfold adR; rw [if_pos hb]
    have hres := hide (fun w2 (hbw : Below w.heap.size w w2) => (show WqP X w p g 10 d x (.returned (.int .i64 10)) w2 from ⟨rfl, h.below hbw, Kx.of_below hbw⟩).of (v' := adE d x F) (d' := adS d x F) (x' := adW d x F) (by have := adE_refused (d := d) (x := x) (F := F) (by rw [hR]; decide); rw [hR] at this; exact this))
    rw [hb] at c3
    clear h hr hR hmay
    go_enter Tryz.func12, Tryz.ntmps12
    go_wp2
    go_ret
    exact hres.out _ (Below.refl _ _)
  | false =>
    rw [hb] at c3
    by_cases hg0 : x.G = 0
    · have hR : adR x F = 8 := by unfold adR; rw [hb, if_neg (by simp), if_pos hg0]
      have hres := hide (fun w2 (hbw : Below w.heap.size w w2) => (show WqP X w p g 8 d x (.returned (.int .i64 8)) w2 from ⟨rfl, h.below hbw, Kx.of_below hbw⟩).of (v' := adE d x F) (d' := adS d x F) (x' := adW d x F) (by have := adE_refused (d := d) (x := x) (F := F) (by rw [hR]; decide); rw [hR] at this; exact this))
      have t1 : ((x.G : Int) == 0) = true := by simp [hg0]
      have t2 : decide (x.G = 0) = true := by simp [hg0]
      clear h hr hR hmay hg0
      go_enter Tryz.func12, Tryz.ntmps12
      go_wp2
      go_ret
      exact hres.out _ (Below.refl _ _)
    · have t1 : ((x.G : Int) == 0) = false := by simp; omega
      have t2 : decide (x.G = 0) = false := by simp [hg0]
      cases hm : mayB F with
      | false =>
        have hR : adR x F = 1 := by unfold adR; rw [hb, if_neg (by simp), if_neg hg0, if_pos hm]
        have hres := hide (fun w2 (hbw : Below w.heap.size w w2) => (show WqP X w p g 1 d x (.returned (.int .i64 1)) w2 from ⟨rfl, h.below hbw, Kx.of_below hbw⟩).of (v' := adE d x F) (d' := adS d x F) (x' := adW d x F) (by have := adE_refused (d := d) (x := x) (F := F) (by rw [hR]; decide); rw [hR] at this; exact this))
        rw [hm] at hmay
        clear h hr hR hg0
        go_enter Tryz.func12, Tryz.ntmps12
        go_wp2_with (go_at_call 41; (with_reducible refine (hmay.out _ (Below.refl _ _)).mono ?_); rintro e w2 ⟨rfl, rfl⟩)
        go_ret
        exact hres.out _ (Below.refl _ _)
      | true =>
        have hR : adR x F = 0 := by unfold adR; rw [hb, if_neg (by simp), if_neg hg0, if_neg (by rw [hm]; simp)]
        rw [hm] at hmay
        by_cases hF : F = []
        · have hres := hide (fun w2 (hbw : Below w.heap.size w w2) => (show WqP X w p g 0 d x (.returned (.int .i64 0)) w2 from ⟨rfl, h.below hbw, Kx.of_below hbw⟩).of (v' := adE d x F) (d' := adS d x F) (x' := adW d x F) (adE_none hR hF))
          have t3 : ((n : Int) == 0) = true := by simp [← hn, hF]
          have t4 : decide (n = 0) = true := by simp [← hn, hF]
          clear h hr hR hg0 hF hn
          go_enter Tryz.func12, Tryz.ntmps12
          go_wp2_with (go_at_call 41; (with_reducible refine (hmay.out _ (Below.refl _ _)).mono ?_); rintro e w2 ⟨rfl, rfl⟩)
          go_ret
          exact hres.out _ (Below.refl _ _)
        · have hpos : F.length ≠ 0 := fun e => hF (List.eq_nil_of_length_eq_zero e)
          have t3 : ((n : Int) == 0) = false := by simp; omega
          have t4 : decide (n = 0) = false := by simp; omega
          have hright := hide (right_of hm hr.oct)
          have hnx := hide (next_any h (by omega) hK)
          have hfr := hide (fun (w2 : World) (hb : Kx X w w2) => frames_any (hr.kx hb hY) hn hl hright.out)
          have hres := hide (adE_some (d := d) hR hF)
          have hkl := nextK_le d x
          have h := hide h
          clear hr hR hg0 hF hn hpos
          have hzo := hide (show Octets (enc F) from octets_enc hright.out)
          obtain ⟨m, hzm⟩ : ∃ m, (enc F).length = m := ⟨_, rfl⟩
          rw [hzm] at hfr
          have hzm := hide hzm
          have hwr := hide (fun (gb : Nat) (w3 w4 : World) (A : Option Addr) (c : Nat) (T : Wt X w w3 p g d x gb #[.int .i64 x.G, .int .i64 (nextK d x : Nat)]) (ho : w4.ownsRow w3.heap.size 5 1 (.slice A m c) m (cellsOf (enc F))) (hb4 : Below w3.heap.size w3 w4) =>
            write_new T hb (G := x.G) (K := nextK d x) (by omega) (by omega) hzm.out ho hb4 hzo.out (by omega))
          have hbrf := hide (fun h => wrB_false (d := d) (nm := segN x.G (nextK d x)) (zs := enc F) h)
          generalize wrE d (segN x.G (nextK d x)) (enc F) = er at *
          generalize wrS d (segN x.G (nextK d x)) (enc F) = dr at *
          generalize wrB d (segN x.G (nextK d x)) (enc F) = br at *
          generalize nextK d x = K' at *
          generalize enc F = zs at *
          have hS := hide (fun (w2 : World) (gb : Nat) (d2 : DS) (y : WS) (T : Wt X w w2 p g d2 y gb #[.int .i64 x.G, .int .i64 K']) => (⟨T.box.cell 0, T.box.cell 1⟩ : w2.cell? ⟨gb, 0, none⟩ = some (.int .i64 x.G) ∧ w2.cell? ⟨gb, 1, none⟩ = some (.int .i64 K')))
          go_enter Tryz.func12, Tryz.ntmps12
          go_upto_region 10 with (first
            | (go_at_call 41; (with_reducible refine (hmay.out _ (Below.refl _ _)).mono ?_); rintro e w2 ⟨rfl, rfl⟩)
            | (go_at_call 42; (with_reducible refine hnx.out.mono ?_); rintro e w2 ⟨rfl, hb2⟩; have T1 := hide (hb2); clear hb2))
          have T := hide (Wt.start' h.out T1.out #[.int .i64 x.G, .int .i64 K'])
          have hap := h.out.apart
          clear T1 h
          generalize hw1 : World.alloc _ _ = w1 at T ⊢
          clear hw1
          generalize w2.heap.size = gb at *
          have QQ := hide (T.out.below ((Below.refl _ w1).drew))
          obtain ⟨z0, z1⟩ := hS.out _ _ _ _ T.out
          clear T
          have W4 := hide True.intro
          have OO := hide True.intro
          go_region_held3 (fun w2 => w2.cell? ⟨gb, 0, none⟩ = some (.int .i64 x.G) ∧ w2.cell? ⟨gb, 1, none⟩ = some (.int .i64 K')) ((with_reducible first | exact hS.out _ _ _ _ QQ.out | exact hS.out _ _ _ _ W4.out))
            (first
              | (go_at_call 44; (with_reducible refine (hfr.out _ QQ.out.k).mono ?_); rintro e w4 ⟨A1, c1, rfl, o1, b1⟩; clear OO; (have OO := hide (And.intro o1 b1)); clear W4; (have W4 := hide (QQ.out.below b1)); clear o1 b1)
              | (go_at_call 43; (with_reducible refine (hwr.out _ _ _ _ _ QQ.out OO.out.1 OO.out.2).mono ?_); rintro e w5 ⟨rfl, hT⟩; clear W4; (have W4 := hide hT); clear hT))
          all_goals
            clear z0 z1
            by_cases hez : er = 0
            · have e1 : (er != 0) = false := by simp [hez]
              obtain ⟨z0, z1⟩ := hS.out _ _ _ _ W4.out
              obtain ⟨-, q1, q2, -⟩ := W4.out.q.cells
              have f1 := W4.out.q.row.free 1
              have f2 := W4.out.q.row.free 2
              have hst := W4.out.done.1.set_at x.G K'
              have hret := hide (show WqP X w p g (adE d x F) (adS d x F) (adW d x F) (.returned (.int .i64 0)) _ from by
                rw [hres.out.1, hres.out.2.1, hres.out.2.2, if_pos hez, hez]
                have hbr : br = false := hbrf.out hez
                have := hst.1
                simp only [hbr] at this
                exact ⟨rfl, this, W4.out.k.trans hst.2⟩)
              clear hez hst
              go_wp2
              go_ret
              exact hret.out
            · have e1 : (er != 0) = true := by simp [hez]
              have hret := hide (show WqP X w p g (adE d x F) (adS d x F) (adW d x F) (.returned (.int .i64 er)) _ from by
                rw [hres.out.1, hres.out.2.1, hres.out.2.2, if_neg hez]
                exact ⟨rfl, W4.out.done⟩)
              clear hez
              go_wp2
              go_ret
              exact hret.out
end Go.Proofs.YtkmcnhjfnjikaaaGreatDoor
/- What package wal's Anew comes to. Conditions: the disk lies in memory as it must, has few files; the records have room. -/
namespace Go.Proofs.YtkmcnhjfnjikaaaGreatDoor
open Go.RowKit Go.Maps
theorem up_app {d : DS} (hu : Up d.l) (nm : ByteArray) (p : List Int) : Up (appS d nm p).l := by
  unfold appS
  split
  · exact hu
  · split
    · exact hu
    · split
      · exact hu
      · split
        · rw [spent_l]; exact hu
        · exact up_putF hu
theorem len_syn' {d : DS} (hu : Up d.l) (nm : ByteArray) : (synS d nm).l.length = d.l.length := by
  unfold synS
  split
  · rfl
  · split
    · rfl
    · rename_i f hf
      split
      · rw [spent_l]
      · show (putF _ _).length = _
        rw [length_putF _ _ hu, if_pos (by show (find nm d.l).isSome = true; rw [hf]; rfl)]
theorem len_wr {d : DS} (hu : Up d.l) (nm : ByteArray) (p : List Int) : (wrS d nm p).l.length ≤ d.l.length + 1 := by
  have h1 := len_app d nm p
  unfold wrS
  split
  · exact h1
  · rw [len_syn' (up_app hu nm p)]; exact h1
theorem anE_refused {d : DS} {x : WS} {F : List (List Int)} (h : anR x F ≠ 0) : anE d x F = anR x F ∧ anS d x F = d ∧ anW d x F = x := by
  unfold anE anS anW
  rw [if_pos h, if_pos h, if_pos h]
  exact ⟨rfl, rfl, rfl⟩
theorem anE_err {d : DS} {x : WS} {F : List (List Int)} (h : anR x F = 0) (hw : wrE d (segN (x.G + 1) 1) (anB F) ≠ 0) : anE d x F = wrE d (segN (x.G + 1) 1) (anB F) ∧ anS d x F = wrS d (segN (x.G + 1) 1) (anB F) ∧ anW d x F = ⟨x.G, x.K, wrB d (segN (x.G + 1) 1) (anB F)⟩ := by
  unfold anE anS anW
  rw [if_neg (not_not_intro h), if_neg (not_not_intro h), if_neg (not_not_intro h), if_pos hw, if_pos hw, if_pos hw]
  exact ⟨rfl, rfl, rfl⟩
theorem anE_ok {d : DS} {x : WS} {F : List (List Int)} (h : anR x F = 0) (hw : wrE d (segN (x.G + 1) 1) (anB F) = 0) : anE d x F = (anD d x F).1 ∧ anS d x F = (anD d x F).2 ∧ anW d x F = if (anD d x F).1 ≠ 0 then ⟨x.G, x.K, true⟩ else ⟨x.G + 1, 1, false⟩ := by
  unfold anE anS anW
  rw [if_neg (not_not_intro h), if_neg (not_not_intro h), if_neg (not_not_intro h), if_neg (not_not_intro hw), if_neg (not_not_intro hw), if_neg (not_not_intro hw)]
  exact ⟨rfl, rfl, rfl⟩
theorem drop_an {X : Nat → Prop} {w w' : World} {p g gb f : Nat} {d : DS} {x : WS} {cs : Array Value} (T : Wt X w w' p g d x gb cs) (hx : x.bad = false) (hG : x.G < 100) (hl : d.l.length ≤ 90) (hf : d.l.length + 1 ≤ f) :
    Calls Tryz.prog 47 #[.pointer (some ⟨p, 0, none⟩), .int .i64 x.G] w' fun e w3 => e = .returned (.int .i64 (remL (if x.G = 0 then [] else dropL d.l x.G f 1) d).1) ∧ Wt X w w3 p g (remL (if x.G = 0 then [] else dropL d.l x.G f 1) d).2 ⟨x.G, x.K, (remL (if x.G = 0 then [] else dropL d.l x.G f 1) d).1 != 0⟩ gb cs := by
  by_cases h0 : x.G = 0
  · rw [if_pos h0]
    have hd := drop_none T.q
    rw [show (0 : Int) = ((x.G : Nat) : Int) from by rw [h0]; rfl] at hd
    refine hd.mono fun e w3 h => ?_
    rw [show ((x.G : Nat) : Int) = 0 from by rw [h0]; rfl] at h
    obtain ⟨h1, h2, h3⟩ := h
    have h4 : x = ⟨x.G, x.K, ((0 : Int) != 0)⟩ := by rw [show ((0 : Int) != 0) = x.bad from by rw [hx]; rfl]
    exact ⟨h1, T.turn (h4 ▸ h2) h3⟩
  · rw [if_neg h0]
    exact (drop_any T.q hx ⟨by omega, hG⟩ hl hf).mono fun e w3 ⟨h1, h2, h3⟩ => ⟨h1, T.turn h2 h3⟩
theorem anB_cons (F : List (List Int)) : anB F = frm (num7 (F.length : Nat)) ++ enc F := by unfold anB; rw [enc_cons]
set_option maxRecDepth 100000 in
set_option maxHeartbeats 2000000 in
theorem anew_any {X Y : Nat → Prop} {p g n c : Nat} {d : DS} {x : WS} {w : World} {A : Option Addr} {F : List (List Int)} (h : Wq X w p g d x) (hG : x.G < 99) (hln : d.l.length ≤ 80)
    (hr : Recs Y w A c F) (hY : ∀ k, Y k → X k) (hn : F.length = n) (hl : n ≤ 100000) (hs : ∀ q, q ∈ F → q.length ≤ 1000000) :
    Calls Tryz.prog 13 #[.pointer (some ⟨p, 0, none⟩), .slice A n c] w (WqP X w p g (anE d x F) (anS d x F) (anW d x F)) := by
  obtain ⟨c0, c1, c2, c3⟩ := h.cells
  have hpl := h.row.lt
  have hmay := hide (fun (w2 : World) (hb : Below w.heap.size w w2) => mayB_any (hr.below hb) hn hl hs)
  cases hb : x.bad with
  | true =>
    have hR : anR x F = 10 := by unfold anR; rw [if_pos hb]
    have hres := hide (fun w2 (hbw : Below w.heap.size w w2) => (show WqP X w p g 10 d x (.returned (.int .i64 10)) w2 from ⟨rfl, h.below hbw, Kx.of_below hbw⟩).of (v' := anE d x F) (d' := anS d x F) (x' := anW d x F) (by have := anE_refused (d := d) (x := x) (F := F) (by rw [hR]; decide); rw [hR] at this; exact this))
    rw [hb] at c3
    clear h hr hR hmay
    go_enter Tryz.func13, Tryz.ntmps13
    go_wp2
    go_ret
    exact hres.out _ (Below.refl _ _)
  | false =>
    rw [hb] at c3
    cases hm : mayB F with
    | false =>
      have hR : anR x F = 1 := by unfold anR; rw [hb, if_neg (by simp), if_pos hm]
      have hres := hide (fun w2 (hbw : Below w.heap.size w w2) => (show WqP X w p g 1 d x (.returned (.int .i64 1)) w2 from ⟨rfl, h.below hbw, Kx.of_below hbw⟩).of (v' := anE d x F) (d' := anS d x F) (x' := anW d x F) (by have := anE_refused (d := d) (x := x) (F := F) (by rw [hR]; decide); rw [hR] at this; exact this))
      rw [hm] at hmay
      clear h hr hR
      go_enter Tryz.func13, Tryz.ntmps13
      go_wp2_with (go_at_call 41; (with_reducible refine (hmay.out _ (Below.refl _ _)).mono ?_); rintro e w2 ⟨rfl, rfl⟩)
      go_ret
      exact hres.out _ (Below.refl _ _)
    | true =>
      have hR : anR x F = 0 := by unfold anR; rw [hb, if_neg (by simp), if_neg (by rw [hm]; simp), if_neg (by unfold most; omega)]
      rw [hm] at hmay
      have t1 : ((x.G : Int) == 999999999) = false := by simp; omega
      have t2 : decide (x.G = 999999999) = false := by simp; omega
      have hwk : IntKind.i64.wrap ((x.G : Int) + 1) = (x.G : Int) + 1 := by rw [IntKind.wrap_i64]; omega
      have hright := hide (right_of hm hr.oct)
      have hfr := hide (fun (w2 : World) (hb : Kx X w w2) => frames_any (hr.kx hb hY) hn hl hright.out)
      have herr := hide (anE_err (d := d) (F := F) hR)
      have hok := hide (anE_ok (d := d) (F := F) hR)
      have hzo := hide (show Octets (enc F) from octets_enc hright.out)
      have hzl := hide (show (enc F).length ≤ 16390 * 100000 from by have := enc_len_le (F := F) fun q hq => (hright.out q hq).1.2; omega)
      have hnum := hide (fun (w2 : World) => num_nil (m := (n : Int)) (ys := num7 (n : Int)) w2 (by omega) (by omega) rfl rfl)
      have hnl := num7_len (n : Int)
      have hno := octets_num7 (n : Int)
      have hput := hide (fun (w2 : World) (B : Option Addr) (c : Nat) (hB : Lies w2 B (num7 (n : Int))) (hc : B = none → c = 0) => fput_any none 0 0 [] B (num7 (n : Int)).length c (num7 (n : Int)) w2 rfl (fun h => absurd h (by simp)) (fun _ => rfl) (by omega) rfl hB hc hno)
      have hpr := hide (show putR [] (num7 (n : Int)) = frm (num7 (n : Int)) by unfold putR; rw [if_pos ⟨by omega, by omega⟩]; rfl)
      have hlf := hide (length_frm (num7 (n : Int)))
      have hof := hide (octets_frm hno)
      have hanB := hide (show anB F = frm (num7 (n : Int)) ++ enc F by rw [anB_cons, hn])
      have h := hide h
      rw [hpr.out] at hput
      clear hr hR hn hpr
      have T := hide (Wt.start h.out #[.int .i64 ((x.G : Int) + 1), .int .i64 1])
      go_enter Tryz.func13, Tryz.ntmps13
      go_upto_region 8 with (first
        | (go_at_call 41; (with_reducible refine (hmay.out _ (Below.refl _ _)).mono ?_); rintro e w2 ⟨rfl, rfl⟩))
      generalize hw1 : World.alloc _ _ = wb at T ⊢
      clear hw1
      have hwr : Hid (∀ (w4 : World) (A : Option Addr) (c : Nat), w4.ownsRow wb.heap.size 5 1 (.slice A ((num7 (n : Int)).length + 6 + (enc F).length) c) ((num7 (n : Int)).length + 6 + (enc F).length) (cellsOf (frm (num7 (n : Int)) ++ enc F)) → Below wb.heap.size wb w4 →
          Calls Tryz.prog 43 #[.pointer (some ⟨p, 0, none⟩), .agg #[.int .i64 ((x.G : Int) + 1), .int .i64 1], .slice A ((num7 (n : Int)).length + 6 + (enc F).length) c] w4 fun e w5 => e = .returned (.int .i64 (wrE d (segN (x.G + 1) 1) (anB F))) ∧ Wt X w w5 p g (wrS d (segN (x.G + 1) 1) (anB F)) ⟨x.G, x.K, wrB d (segN (x.G + 1) 1) (anB F)⟩ w.heap.size #[.int .i64 ((x.G : Int) + 1), .int .i64 1]) :=
        hide (fun w4 A c ho hb4 => by rw [hanB.out]; exact write_new T.out hb (G := x.G + 1) (K := 1) (by omega) (by omega) (by rw [List.length_append, hlf.out]) ho hb4 (hof.out.append hzo.out) (by omega))
      have hdl := hide (len_wr h.out.q.ok.up (segN (x.G + 1) 1) (anB F))
      have hbrf := hide (fun h => wrB_false (d := d) (nm := segN (x.G + 1) 1) (zs := anB F) h)
      have hanD := hide (show anD d x F = remL (if x.G = 0 then [] else dropL (wrS d (segN (x.G + 1) 1) (anB F)).l x.G (d.l.length + 2) 1) (wrS d (segN (x.G + 1) 1) (anB F)) from rfl)
      generalize wrE d (segN (x.G + 1) 1) (anB F) = er at *
      generalize wrS d (segN (x.G + 1) 1) (anB F) = dr at *
      generalize wrB d (segN (x.G + 1) 1) (anB F) = br at *
      generalize enc F = zs at *
      generalize frm (num7 (n : Int)) = hd at *
      generalize num7 (n : Int) = ns at *
      obtain ⟨k, hk⟩ : ∃ k, ns.length = k := ⟨_, rfl⟩
      obtain ⟨m, hzm⟩ : ∃ m, zs.length = m := ⟨_, rfl⟩
      rw [hk] at hnl hlf hwr hnum
      rw [hlf.out, hk] at hput
      rw [hzm] at hzl hfr hwr
      have hS := hide (fun (w2 : World) (d2 : DS) (y : WS) (T : Wt X w w2 p g d2 y w.heap.size #[.int .i64 ((x.G : Int) + 1), .int .i64 1]) => (⟨T.box.cell 0, T.box.cell 1⟩ : w2.cell? ⟨w.heap.size, 0, none⟩ = some (.int .i64 ((x.G : Int) + 1)) ∧ w2.cell? ⟨w.heap.size, 1, none⟩ = some (.int .i64 1)))
      obtain ⟨i0, hi, hz0, hz1, hz2⟩ := info_parts Tryz.info5
      have hwbs := T.out.box.lt
      go_upto_region 9 with (first
        | (go_at_call 46; (with_reducible refine (hnum.out _).mono ?_); rintro e w1 ⟨A1, c1, rfl, l1, hc1, hn1, b1⟩)
        | (go_at_call 45; (with_reducible refine (hput.out _ A1 c1 hc1 hn1).mono ?_); rintro e w2 ⟨A2, c2, rfl, o2, b2⟩))
      have BB := hide ((b1.trans (b2.mono b1.size)).drew)
      have OO := hide (own_mono (own_below o2 (Below.refl _ _).drew) b1.size)
      have W4 := hide True.intro
      have ZZ := hide True.intro
      obtain ⟨z0, z1⟩ := hS.out _ _ _ (T.out.below BB.out)
      clear l1 hc1 hn1 b1 o2 b2
      go_region_held3 (fun w2 => w2.cell? ⟨w.heap.size, 0, none⟩ = some (.int .i64 ((x.G : Int) + 1)) ∧ w2.cell? ⟨w.heap.size, 1, none⟩ = some (.int .i64 1)) ((with_reducible first | exact hS.out _ _ _ (T.out.below BB.out) | exact hS.out _ _ _ W4.out))
        (first
          | (go_at_call 44; (with_reducible refine (hfr.out _ (T.out.k.trans (Kx.of_below BB.out))).mono ?_); rintro e w4 ⟨A3, c3, rfl, o1, b1⟩; clear ZZ; (have ZZ := hide (And.intro (Lies.of_own o1) (own_nil o1))); (have ON := hide (own_below OO.out b1)); clear OO; (have OO := ON); (have BN := hide (kept_trans BB.out b1)); clear BB; (have BB := BN); clear o1 b1 ON BN)
          | (refine step_append_bytes rfl (.tmp 38) (.tmp 40) 31 rfl wb.heap.size 5 i0 _ Tryz.underlying31 hi hz0 hz1 hz2 rfl _ (k + 6) hd rfl OO.out A3 m c3 zs rfl hzm ZZ.out.2 ZZ.out.1 (by have := hzl.out; omega) BB.out.size ?_; intro v5 w5 o5 b5; obtain ⟨A5, c5, rfl, -⟩ := own_shape o5; clear OO ZZ; (have OO := hide o5); (have BN := hide (BB.out.trans b5)); clear BB; (have BB := BN); clear BN o5 b5)
          | (go_at_call 43; (with_reducible refine (hwr.out _ _ _ OO.out BB.out).mono ?_); rintro e w5 ⟨rfl, hT⟩; clear W4; (have W4 := hide hT); clear hT))
      all_goals
        clear z0 z1
        by_cases hez : er = 0
        · have e1 : (er != 0) = false := by simp [hez]
          have hbr : br = false := hbrf.out hez
          have hok := hide (hok.out hez)
          rw [hbr] at W4
          have hdr := hide (drop_an (f := d.l.length + 2) W4.out rfl (by have := hG; show x.G < 100; omega) (by have := hdl.out; omega) (by have := hdl.out; omega))
          obtain ⟨y0, y1, y2, -⟩ := W4.out.q.cells
          dsimp only at hdr y1 y2
          have hdr2 := hide (hdr.out.mono (R' := fun e w3 => e = .returned (.int .i64 (anD d x F).1) ∧ Wt X w w3 p g (anD d x F).2 ⟨x.G, x.K, (anD d x F).1 != 0⟩ w.heap.size #[.int .i64 ((x.G : Int) + 1), .int .i64 1]) fun e w3 h => by rw [hanD.out]; exact h)
          clear hdr hez hbr hbrf herr hanD W4
          generalize anD d x F = r at *
          go_upto_region 13 with (go_at_call 47; (with_reducible refine hdr2.out.mono ?_); rintro e w6 ⟨rfl, hT⟩; have W5 := hide hT; clear hT)
          obtain ⟨re, rr⟩ := r
          dsimp only at hok W5
          by_cases hrz : re = 0
          · have e2 : (re != 0) = false := by simp [hrz]
            obtain ⟨z0, z1⟩ := hS.out _ _ _ W5.out
            obtain ⟨-, q1, q2, -⟩ := W5.out.q.cells
            have f1 := W5.out.q.row.free 1
            have f2 := W5.out.q.row.free 2
            have hst := W5.out.done.1.set_at (x.G + 1) 1
            have hret := hide (show WqP X w p g (anE d x F) (anS d x F) (anW d x F) (.returned (.int .i64 0)) _ from by
              rw [hok.out.1, hok.out.2.1, hok.out.2.2, if_neg (not_not_intro hrz), hrz]
              have := hst.1
              simp only [e2] at this
              exact ⟨rfl, this, W5.out.k.trans hst.2⟩)
            clear hrz hst
            go_wp2
            go_ret
            exact hret.out
          · have e2 : (re != 0) = true := by simp [hrz]
            have hret := hide (show WqP X w p g (anE d x F) (anS d x F) (anW d x F) (.returned (.int .i64 re)) _ from by
              rw [hok.out.1, hok.out.2.1, hok.out.2.2, if_pos hrz]
              have := W5.out.done
              rw [e2] at this
              exact ⟨rfl, this⟩)
            clear hrz
            go_wp2
            go_ret
            exact hret.out
        · have e1 : (er != 0) = true := by simp [hez]
          have hret := hide (show WqP X w p g (anE d x F) (anS d x F) (anW d x F) (.returned (.int .i64 er)) _ from by
            have := herr.out hez
            rw [this.1, this.2.1, this.2.2]
            exact ⟨rfl, W4.out.done⟩)
          clear hez
          go_wp2
          go_ret
          exact hret.out
end Go.Proofs.YtkmcnhjfnjikaaaGreatDoor
