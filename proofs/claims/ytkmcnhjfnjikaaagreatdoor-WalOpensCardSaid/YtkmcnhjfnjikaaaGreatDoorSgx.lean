/- WalSegments. No condition. -/
import Derived.Test.YtkmcnhjfnjikaaaGreatDoorSgw
namespace Go.Proofs.YtkmcnhjfnjikaaaGreatDoor
open Go.RowKit Go.Maps
theorem made_el {w : World} {base B n : Nat} (h : w.ownsRow base 5 1 (.slice (some ⟨B, 0, none⟩) n n) n (cellsOf (pad n 0))) (h0 : 0 < n) (x : Int) :
    El (w.setCell ⟨B, 0, none⟩ (.int .u8 x)) (x :: pad (n - 1) 0) (some ⟨B, 0, none⟩) n ∧ w.cell? ⟨B, 0, none⟩ = some (.int .u8 0) ∧ w.frozen? ⟨B, 0, none⟩ = false := by
  obtain ⟨_, hmx, _, hb⟩ := own_block h
  obtain ⟨k, rfl⟩ : ∃ k, n = k + 1 := ⟨n - 1, by omega⟩
  have hp : pad (k + 1) 0 = 0 :: pad k 0 := by unfold pad; rfl
  have R : Row w B 5 (cellsOf (pad (k + 1) 0)).toArray := hb
  have h2 := R.put 0 (.int .u8 x)
  have hc : (cellsOf (pad (k + 1) 0)).toArray.setIfInBounds 0 (.int .u8 x) = (cellsOf (x :: pad k 0)).toArray := by rw [hp]; unfold cellsOf; simp
  rw [hc] at h2
  have ho := block_own (base := base) (n := k + 1) (own_block h).1 hmx (by rw [length_cellsOf]; simp [length_pad]) h2
  refine ⟨⟨by rw [Nat.add_sub_cancel]; exact Lies.of_own ho, by rw [Nat.add_sub_cancel]; simp [length_pad], fun h => by cases h⟩, ?_, R.free 0⟩
  rw [R.cell 0, hp]
  unfold cellsOf
  simp
theorem recs_mine {w : World} {B n : Nat} {zs : List Int} (h : El w zs (some ⟨B, 0, none⟩) n) (hn : zs.length = n) (hB : B < w.heap.size) (ho : Octets zs) : Recs (fun k => k = B ∨ (w.heap.size ≤ k ∧ k < (w.alloc (.cells #[.slice (some ⟨B, 0, none⟩) n n] 31)).heap.size)) (w.alloc (.cells #[.slice (some ⟨B, 0, none⟩) n n] 31)) (some ⟨w.heap.size, 0, none⟩) 1 [zs] := by
  refine ⟨Nat.le_refl _, fun p hp => by rcases List.mem_singleton.1 hp with rfl; exact ho, fun j p hj => ?_⟩
  rcases j with _ | j
  · simp at hj
    subst hj
    refine ⟨w.heap.size, 0, rfl, .inr ⟨Nat.le_refl _, by simp⟩, by simp, some ⟨B, 0, none⟩, n, ?_, h.alloc _, fun _ a ha => ?_⟩
    · rw [hn]; exact (Row.new w 31 #[.slice (some ⟨B, 0, none⟩) n n]).cell 0
    · injection ha with ha; subst ha
      exact ⟨.inl rfl, by show B < _; simp; omega⟩
  · simp at hj
theorem Wk.add2 {W w w1 : World} {Y : Nat → Prop} {p g : Nat} {d d' : DS} {x x' : WS} {v : Value} {L : List (List Int)} {Y' : Nat → Prop} {A : Option Addr} {n c : Nat} {F : List (List Int)} {y : Int} (h : Wk W w Y p g d x v L) (hb : Below w.heap.size w w1) (hr : Recs Y' w1 A c F) (hY : ∀ k, Y' k → Y k ∨ v.ownBlock = some k ∨ (w.heap.size ≤ k ∧ k < w1.heap.size)) (hn : F.length = n) (hl : n ≤ 100000) (hs : ∀ q, q ∈ F → q.length ≤ 1000000)
    (hG : x.G < 99) (hK : x.K < 99) (hln : d.l.length ≤ 80) (hx : adE d x F = y ∧ adS d x F = d' ∧ adW d x F = x') :
    Calls Tryz.prog 12 #[.pointer (some ⟨p, 0, none⟩), .slice A n c] w1 fun e w' => e = .returned (.int .i64 y) ∧ Wk W w' Y p g d' x' v L ∧ Kx (fun k => Y k ∨ v.ownBlock = some k) w w' := by
  obtain ⟨rfl, rfl, rfl⟩ := hx
  have hq := h.q.more (Y := fun k => (Y k ∨ v.ownBlock = some k) ∨ (w.heap.size ≤ k ∧ k < w1.heap.size)) hb fun k hk => hk
  exact (add_any hq (by omega) hK (by omega) hr (fun k hk => by rcases hY k hk with z | z | z; exact .inl (.inl z); exact .inl (.inr z); exact .inr z) hn hl hs).mono fun e w2 h2 => ⟨(h.op hb (fun k hk => .inl hk) h2).1, (h.op hb (fun k hk => .inl hk) h2).2, (Kx.of_below hb).trans (h2.2.2.mono fun k hk => .inl hk)⟩
theorem octets_made {x : Int} (hx : 0 ≤ x ∧ x ≤ 255) (n : Nat) : Octets (x :: pad n 0) := fun z hz => by
  rcases List.mem_cons.1 hz with rfl | hz
  · omega
  · unfold pad at hz
    obtain ⟨_, rfl⟩ := List.mem_replicate.1 hz
    omega
set_option maxRecDepth 100000 in
set_option maxHeartbeats 4000000 in
theorem segs_any (A : Option Addr) (m c : Nat) (ps : List Int) (W : World) (h : IntsIn W A m c ps) :
    Calls Tryz.prog 9 #[.slice A m c] W fun e w' => e = .returned (.bool true) ∧ Below W.heap.size W w' := by
  have hmx : (m : Int) ≤ 9223372036854775807 := by have := h.le; have := h.room; omega
  have c0 := hide (new_q 1048576 W (by omega))
  have oe := op_empty 1048576
  obtain ⟨st1, st2, n0, hn0, st3⟩ := Sgr.start
  have c1 := hide (fun (w : World) (g : Nat) (h : Lw W (fun k => k < W.heap.size) w g (newS 1048576)) => open_l (m := 60) (x := ⟨0, 0, false⟩) (L := []) h ⟨Nat.zero_le _, fun f hf => by (cases hf)⟩ (by omega) oe.1 oe.2.1 (by rw [oe.2.2.1, oe.2.2.2.1]) oe.2.2.2.2)
  have c2 := hide (fun (w : World) (p g : Nat) (h : Wl W w p g (newS 1048576) ⟨0, 0, false⟩) => h.anew (n := 0) (Below.refl _ _) (recs0 (fun k => w.heap.size ≤ k ∧ k < w.heap.size) w) (fun k hk => .inr hk) rfl (by omega) (fun q hq => by (cases hq)) (by decide) (Nat.zero_le _) ⟨st1, rfl, st2⟩)
  have hfn := st3.g.has 1 (Nat.le_refl _) (Nat.le_refl _)
  have hfl := st3.n
  have st3 := hide st3
  generalize anS (newS 1048576) ⟨0, 0, false⟩ [] = d0 at *
  have c3 := hide (fun (w : World) (p g : Nat) (S : Wk W w (fun k => k < W.heap.size) p g d0 ⟨1, 1, false⟩ (.slice none 0 0) []) => (read_q (nm := segN 1 1) S.disk (by unfold maxLen; have := segN_size 1 1; omega)).mono (R' := fun e w' => ∃ A c, e = .returned (.tuple #[.slice A n0 c, .bool true]) ∧ Below w.heap.size w w') fun e w' ⟨A, c, h1, h2, h3⟩ => ⟨A, c, by rw [h1, hfn]; show _ = Ending.returned (.tuple #[.slice A n0 c, .bool true]); rw [← hfl]; rfl, h3⟩)
  have hP := hide h
  have hruns := hide runs_any
  obtain ⟨i0, hi, hz0, hz1, hz2⟩ := info_parts Tryz.info31
  obtain ⟨u0, ui, uz0, uz1, uz2⟩ := info_parts Tryz.info5
  clear oe st1 st2 h hfn hfl
  go_enter Tryz.func9, Tryz.ntmps9
  go_upto_region 9 with (first
    | (go_at_call 10; (with_reducible refine c0.out.mono ?_); rintro e w1 ⟨g, rfl, hq1, hb1⟩; (have S0 := hide (Lw.start hq1 hb1)); clear hq1 hb1)
    | (go_at_call 11; (with_reducible refine (c1.out _ _ S0.out).mono ?_); rintro e w2 ⟨P, A1, n1, rfl, hS, -⟩; (have S1 := hide hS); clear hS S0)
    | (go_at_call 13; (with_reducible refine (c2.out _ _ _ S1.out).mono ?_); rintro e w3 ⟨rfl, hS⟩; (have S2 := hide (Wk.start hS)); clear hS S1)
    | (go_at_call 36; (with_reducible refine (segment_one _).mono ?_); rintro e w4 ⟨rfl, hb4⟩; (have S3 := hide (S2.out.below hb4)); clear S2 hb4)
    | (go_at_call 35; (with_reducible refine (c3.out _ _ _ S3.out).mono ?_); rintro e w5 ⟨A5, c5, rfl, hb5⟩; (have S4 := hide (S3.out.below hb5)); clear S3 hb5))
  go_wp2
  go_loopw [8, 9, 12, 13] (fun v k n i wr => ∃ (vv : Value) (j K nn : Nat) (d : DS) (F : Nat → List (List Int)) (L : List (List Int)) (Y : Nat → Prop), vv = v ∧ i = .int .i64 j ∧ k = .int .i64 K ∧ n = .int .i64 nn ∧ j ≤ 30 ∧ j ≤ m ∧ Hid (Sgr j d K F L nn) ∧ Hid (Wk W wr Y P g d ⟨1, K, false⟩ vv L)) (fun _ _ _ i _ => 30 - (intOf i).toNat)
  case atStart => exact ⟨_, 0, 1, n0, d0, _, [], _, rfl, rfl, rfl, rfl, by omega, by omega, st3, S4⟩
  case round =>
    obtain ⟨v, j, K, nn, d, F, L, Y, rfl, rfl, rfl, rfl, hj, hjm, hF, S⟩ := hrel
    by_cases hlt : j < m ∧ j < 30
    · obtain ⟨hlt1, hlt2⟩ := hlt
      have t1 : decide ((j : Int) < (m : Int)) = true := by simp; omega
      have t2 : decide (j < m) = true := by simp; omega
      have t3 : decide ((j : Int) < 30) = true := by simp; omega
      have t4 : decide (j < 30) = true := by simp; omega
      have hpl := hP.out.len
      obtain ⟨b, off, rfl, hbl, hcl⟩ := hP.out.lies (by omega)
      have hcW := hcl j (by omega)
      have cw := (S.out.low.cell (p := ⟨b, off + j, none⟩) hbl).trans hcW
      clear hcl hcW
      generalize hix : ix ps j = px at cw
      clear hix
      have hwi := hide (fun w => within_any px 1 3000 w (by omega) (by omega) (by omega))
      have hwb := withinI_bounds px 1 3000 (by omega)
      obtain ⟨l, hl⟩ : ∃ l : Nat, withinI px 1 3000 = l := ⟨(withinI px 1 3000).toNat, by omega⟩
      rw [hl] at hwi hwb
      have hj0 : j < m := hlt1
      clear hl
      obtain ⟨K', F', f1, f2, hK', hF2⟩ := hF.out.more (p := (j : Int) :: pad (l - 1) 0) (by omega) ⟨by simp [length_pad]; omega, octets_made (by omega) _⟩
      have hpl2 := hide (show ((j : Int) :: pad (l - 1) 0).length = l by simp [length_pad]; omega)
      have hoc := hide (octets_made (x := (j : Int)) (by omega) (l - 1))
      have hkk := hF.out.k
      have hfd := hF.out.g.len (by omega) (by omega)
      have hsm := hF2.ln
      rw [hpl2.out] at hF2
      have hF2 := hide hF2
      have hnn : nn ≤ 1048576 := by have h1 := hF.out.g.has K hkk.1 (Nat.le_refl _); have h2 := flen S.out.disk.ok (find_mem h1).1; have h3 := hF.out.n; rw [← h3]; exact h2
      have hw8 : IntKind.u8.wrap (j : Int) = (j : Int) := by rw [IntKind.wrap_u8]; omega
      have hadd := hide (fun (w2 : World) (Y2 : Nat → Prop) (B : Nat) (S2 : Wk W w2 Y2 P g d ⟨1, K, false⟩ v L) (hel : El w2 ((j : Int) :: pad (l - 1) 0) (some ⟨B, 0, none⟩) l) (hB : Y2 B ∧ B < w2.heap.size) => S2.add2 (n := 1) (y := 0) (below_alloc' w2 _) (recs_mine hel hpl2.out hB.2 hoc.out) (fun k hk => by rcases hk with rfl | hk; exact .inl hB.1; exact .inr (.inr hk)) rfl (by omega) (fun x hx => by rcases List.mem_singleton.1 hx with rfl; have := hpl2.out; omega) (by show (1 : Nat) < 99; omega) (by show K < 99; omega) (by omega) ⟨f1, rfl, f2⟩)
      generalize adS d ⟨1, K, false⟩ [(j : Int) :: pad (l - 1) 0] = d' at *
      generalize hzs : (j : Int) :: pad (l - 1) 0 = zs at *
      have hwh := hide (fun (w2 : World) (Y2 : Nat → Prop) (v2 : Value) (L2 : List (List Int)) (S2 : Wk W w2 Y2 P g d' ⟨1, K', false⟩ v2 L2) => (where_any S2.wl.q : Calls _ _ _ _ _))
      dsimp only at hwh
      have cast1 : ((1 : Nat) : Int) = 1 := rfl
      go_upto_region 12 with (fail)
      go_upto_region 13 with (first
        | (go_at_call 16; (with_reducible refine (hwi.out _).mono ?_); rintro e w0 ⟨rfl, rfl⟩)
        | (at_make; refine wpList_make_full _ rfl _ _ 31 rfl wr.heap.size 5 u0 (.int .u8 0) 1 Tryz.underlying31 ui uz0 uz1 _ _ _ _ l rfl rfl (by omega) (by omega) (by rw [uz2]; omega) (by unfold maxLen; omega) (Nat.le_refl _) ?_))
      intro w6 o6 k6
      rw [zeros_cells] at o6
      have b6 := (Below.refl wr.heap.size wr).grown k6 (Nat.le_refl _) (fun k h => by cases h)
      obtain ⟨hel, q0, q1⟩ := made_el o6 (by omega) (j : Int)
      rw [hzs] at hel
      have hBlt := (own_lt o6) _ rfl
      have b7 := b6.setCell (Nat.le_refl wr.heap.size) (p := ⟨wr.heap.size, 0, none⟩) (.int .u8 (j : Int))
      have hB7 : wr.heap.size < (w6.setCell ⟨wr.heap.size, 0, none⟩ (.int .u8 (j : Int))).heap.size := by simp; exact hBlt
      have S7 := hide (S.out.wider (Y' := fun k => Y k ∨ k = wr.heap.size) b7 (fun k h => .inl h) (fun k h => h.imp id fun e => by subst e; exact ⟨Nat.le_refl _, hB7⟩))
      have hB7 := hide hB7
      have hel := hide hel
      have hl0 : 0 < l := by omega
      clear b6 b7 o6 k6 cw
      go_upto_region 14 with (fail)
      generalize World.setCell w6 _ _ = w7 at *
      generalize wr.heap.size = B at *
      have hlL := hF.out.ln
      clear hwi q0 q1
      by_cases hc4 : 4096 < nn
      · rw [if_pos hc4] at hK' hF2
        subst hK'
        have e1 : decide ((4096 : Int) < (nn : Int)) = true := by simp; omega
        have e2 : decide (4096 < nn) = true := by simp; omega
        have e3 : IntKind.i64.wrap ((K : Int) + 1) = (K : Int) + 1 := by rw [IntKind.wrap_i64]; omega
        have e4 : IntKind.i64.wrap (0 + (l : Int)) = (l : Int) := by rw [IntKind.wrap_i64]; omega
        have e5 : IntKind.i64.wrap ((l : Int) + 6) = (l : Int) + 6 := by rw [IntKind.wrap_i64]; omega
        have e6 : (((K : Int) + 1) != ((K : Int) + 1)) = false := by simp
        clear hc4
        go_upto_region 16 with (first | (go_at_call 12; (with_reducible refine (hadd.out _ _ _ S7.out hel.out ⟨.inr rfl, hB7.out⟩).mono ?_); rintro e w9 ⟨rfl, hS9, hk9⟩; (have S9 := hide hS9); (have hel9 := hide (show El w9 zs (some ⟨B, 0, none⟩) l from ⟨hel.out.lies.kx hk9 (fun _ a ha => by injection ha with ha; subst ha; exact .inl (.inr rfl)), hel.out.le, hel.out.nil⟩)); (have hB9 := hide (Nat.lt_of_lt_of_le hB7.out hk9.size)); clear hS9 hk9 S7 hel))
        obtain ⟨vs, hvs, hvl⟩ := S9.out.want.own
        have hvs := hide hvs
        have hvl := hide hvl
        go_wp2_with (at_builtin; refine wpList_append_own_at _ rfl (.tmp 78) (.tmp 80) 27 rfl 0 31 i0 (.slice none 0 0) 1 24 Tryz.underlying27 hi hz0 hz1 hz2 rfl (by omega) _ L.length vs rfl (own_below hvs.out (below_alloc' w9 _)) ⟨w9.heap.size, 0, none⟩ 1 1 [.slice (some ⟨B, 0, none⟩) l l] rfl rfl (cell_one_new _ _ _) (by intro u hu; rw [List.mem_singleton] at hu; subst hu; rfl) (by unfold maxLen; omega) (by omega) (Nat.zero_le _) ?_)
        intro v2 w10 o10 k10 _ hat
        have hG := hide (S9.out.grow (q := zs) (A := some ⟨B, 0, none⟩) (c := l) (below_alloc' w9 (.cells #[.slice (some ⟨B, 0, none⟩) l l] 31)) hel9.out
          (fun x hx => by injection hx with hx; subst hx; exact ⟨.inr rfl, hB9.out⟩)
          (fun j p hj => by
            obtain ⟨A'', c'', e, h1, h2⟩ := hvl.out j p hj
            exact ⟨A'', c'', e, h1.alloc _, fun x hx => ⟨(h2 x hx).1, by have := (h2 x hx).2; simp; omega⟩⟩)
          (by have := hvs.out.1; omega) (fun k hk => Nat.le_of_not_lt fun h => S9.out.want.apart k hk (S9.out.xs k h)) (by rw [hpl2.out]; exact o10) k10 (by simpa using hat))
        clear o10 k10 hat hvs hvl S9
        go_wp2_with (first | (go_at_call 15; (with_reducible refine (hwh.out _ _ _ _ hG.out).mono ?_); rintro e w11 ⟨rfl, hb11⟩; (have S11 := hide (hG.out.below hb11)); clear hb11 hG))
        go_roundw
        case rel => exact ⟨v2, j + 1, K + 1, 0 + l + 6, d', F', L ++ [zs], _, rfl, by simp; try omega, by simp; try omega, by simp; try omega, by omega, by omega, hF2, S11⟩
        case measure => simp [intOf]; omega
      · rw [if_neg hc4] at hK' hF2
        subst hK'
        have e1 : decide ((4096 : Int) < (nn : Int)) = false := by simp; omega
        have e2 : decide (4096 < nn) = false := by simp; omega
        have e4 : IntKind.i64.wrap ((nn : Int) + (l : Int)) = (nn : Int) + (l : Int) := by rw [IntKind.wrap_i64]; omega
        have e5 : IntKind.i64.wrap ((nn : Int) + (l : Int) + 6) = (nn : Int) + (l : Int) + 6 := by rw [IntKind.wrap_i64]; omega
        have e6 : ((K' : Int) != (K' : Int)) = false := by simp
        clear hc4
        go_upto_region 16 with (first | (go_at_call 12; (with_reducible refine (hadd.out _ _ _ S7.out hel.out ⟨.inr rfl, hB7.out⟩).mono ?_); rintro e w9 ⟨rfl, hS9, hk9⟩; (have S9 := hide hS9); (have hel9 := hide (show El w9 zs (some ⟨B, 0, none⟩) l from ⟨hel.out.lies.kx hk9 (fun _ a ha => by injection ha with ha; subst ha; exact .inl (.inr rfl)), hel.out.le, hel.out.nil⟩)); (have hB9 := hide (Nat.lt_of_lt_of_le hB7.out hk9.size)); clear hS9 hk9 S7 hel))
        obtain ⟨vs, hvs, hvl⟩ := S9.out.want.own
        have hvs := hide hvs
        have hvl := hide hvl
        go_wp2_with (at_builtin; refine wpList_append_own_at _ rfl (.tmp 78) (.tmp 80) 27 rfl 0 31 i0 (.slice none 0 0) 1 24 Tryz.underlying27 hi hz0 hz1 hz2 rfl (by omega) _ L.length vs rfl (own_below hvs.out (below_alloc' w9 _)) ⟨w9.heap.size, 0, none⟩ 1 1 [.slice (some ⟨B, 0, none⟩) l l] rfl rfl (cell_one_new _ _ _) (by intro u hu; rw [List.mem_singleton] at hu; subst hu; rfl) (by unfold maxLen; omega) (by omega) (Nat.zero_le _) ?_)
        intro v2 w10 o10 k10 _ hat
        have hG := hide (S9.out.grow (q := zs) (A := some ⟨B, 0, none⟩) (c := l) (below_alloc' w9 (.cells #[.slice (some ⟨B, 0, none⟩) l l] 31)) hel9.out
          (fun x hx => by injection hx with hx; subst hx; exact ⟨.inr rfl, hB9.out⟩)
          (fun j p hj => by
            obtain ⟨A'', c'', e, h1, h2⟩ := hvl.out j p hj
            exact ⟨A'', c'', e, h1.alloc _, fun x hx => ⟨(h2 x hx).1, by have := (h2 x hx).2; simp; omega⟩⟩)
          (by have := hvs.out.1; omega) (fun k hk => Nat.le_of_not_lt fun h => S9.out.want.apart k hk (S9.out.xs k h)) (by rw [hpl2.out]; exact o10) k10 (by simpa using hat))
        clear o10 k10 hat hvs hvl S9
        go_wp2_with (first | (go_at_call 15; (with_reducible refine (hwh.out _ _ _ _ hG.out).mono ?_); rintro e w11 ⟨rfl, hb11⟩; (have S11 := hide (hG.out.below hb11)); clear hb11 hG))
        go_roundw
        case rel => exact ⟨v2, j + 1, _, nn + l + 6, d', F', L ++ [zs], _, rfl, by simp; try omega, by simp; try omega, by simp; try omega, by omega, by omega, hF2, S11⟩
        case measure => simp [intOf]; omega
    · have hkk := hF.out.k
      have o5 := hF.out.g.open (by omega) (by omega)
      have hop := hide (S.out.open (m := 60) (M := L) (hF.out.g.sm (by omega) (by omega) (by omega)) (by omega) o5.1 (by rw [o5.2.2]; exact hF.out.ct))
      have hoct := hide (fun p (hp : p ∈ L) => (hF.out.sz p hp).2)
      have hsz := hide (fun p (hp : p ∈ L) => (show p.length ≤ 1000000 by have := (hF.out.sz p hp).1; omega))
      have hcnt := hF.out.g.count (by omega) (by omega)
      have hLn := hF.out.ln
      obtain ⟨Aw, cw, rfl, -⟩ := S.out.want.recs hoct.out
      have hli := hide (fun (w2 : World) (Y1 Y2 : Nat → Prop) (A2 : Option Addr) (c2 : Nat) (r1 : Recs Y1 w2 A2 c2 L) (r2 : Recs Y2 w2 Aw cw L) => lists_any (n := L.length) (m := L.length) r1 r2 rfl rfl (by omega) (by omega) hsz.out hsz.out)
      rw [decide_eq_true rfl] at hli
      rw [o5.2.1] at hop
      have hnm := hide (fun (w2 : World) (p2 : Nat) (x2 : WS) (S2 : Wk W w2 Y p2 g d x2 (.slice Aw L.length cw) L) => (names_q S2.disk (by omega)).mono (R' := fun e w' => ∃ A c, e = .returned (.slice A K c) ∧ Below w2.heap.size w2 w') fun e w' h => by obtain ⟨A, c, h1, h2⟩ := h; exact ⟨A, c, by rw [h1, hcnt], h2.2.2.1⟩)
      have e9 : ((K : Int) == (K : Int)) = true := by simp
      clear o5
      obtain ⟨ln, hln⟩ : ∃ n, L.length = n := ⟨_, rfl⟩
      rw [hln] at hop hli hnm
      rw [hln]
      by_cases hjm2 : j < m
      · have t1 : decide ((j : Int) < (m : Int)) = true := by simp; omega
        have t2 : decide (j < m) = true := by simp; omega
        have t3 : decide ((j : Int) < 30) = false := by simp; omega
        have t4 : decide (j < 30) = false := by simp; omega
        clear hlt
        go_wp2_with (first
          | (go_at_call 11; (with_reducible refine hop.out.mono ?_); rintro e w2 ⟨P2, A2, c2, rfl, hS2, hr2⟩; (have S9 := hide hS2); (have R9 := hide hr2); clear hS2 hr2)
          | (go_at_call 26; obtain ⟨Y9, r9⟩ := S9.out.want.recs_at hoct.out; (with_reducible refine (hli.out _ _ _ _ _ R9.out r9).mono ?_); rintro e w3 ⟨rfl, q3, rfl⟩; (have S10 := hide (S9.out.below (below_drewN' (Below.refl _ _) q3))))
          | (go_at_call 37; (with_reducible refine (hnm.out _ _ _ S10.out).mono ?_); rintro e w5 ⟨An, cn, rfl, hb5⟩; (have S11 := hide (S10.out.below hb5)); clear hb5)
          | (go_at_call 3; (with_reducible refine (hruns.out _).mono ?_); rintro e w4 ⟨rfl, hb4⟩; have B9 := hide (kept_trans S11.out.low hb4)))
        go_ret
        exact ⟨rfl, B9.out⟩
      · have t1 : decide ((j : Int) < (m : Int)) = false := by simp; omega
        have t2 : decide (j < m) = false := by simp; omega
        clear hlt
        go_wp2_with (first
          | (go_at_call 11; (with_reducible refine hop.out.mono ?_); rintro e w2 ⟨P2, A2, c2, rfl, hS2, hr2⟩; (have S9 := hide hS2); (have R9 := hide hr2); clear hS2 hr2)
          | (go_at_call 26; obtain ⟨Y9, r9⟩ := S9.out.want.recs_at hoct.out; (with_reducible refine (hli.out _ _ _ _ _ R9.out r9).mono ?_); rintro e w3 ⟨rfl, q3, rfl⟩; (have S10 := hide (S9.out.below (below_drewN' (Below.refl _ _) q3))))
          | (go_at_call 37; (with_reducible refine (hnm.out _ _ _ S10.out).mono ?_); rintro e w5 ⟨An, cn, rfl, hb5⟩; (have S11 := hide (S10.out.below hb5)); clear hb5)
          | (go_at_call 3; (with_reducible refine (hruns.out _).mono ?_); rintro e w4 ⟨rfl, hb4⟩; have B9 := hide (kept_trans S11.out.low hb4)))
        go_ret
        exact ⟨rfl, B9.out⟩
end Go.Proofs.YtkmcnhjfnjikaaaGreatDoor
