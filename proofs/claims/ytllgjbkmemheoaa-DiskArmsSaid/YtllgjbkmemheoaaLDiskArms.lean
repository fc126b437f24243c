/- Proved: the law DiskArms returns true. Conditions: none beyond the row's own. -/
import Derived.Test.YtllgjbkmemheoaaFrame
import Derived.Test.YtllgjbkmemheoaaArms
import Derived.Deep.DeepCutAuto
namespace Go.Proofs.Ytllgjbkmemheoaa.diskArms
open Go.ChangeShapes Go.WideShapes Go.ChangeAt Go.RowKit
/-- Below B, and the row that is put together. -/
def XB (B : Nat) (v : Value) : Nat → Prop := fun k => k < B ∨ v.ownBlock = some k
/-- What the rounds hold on to. -/
structure Ar (W w : World) (g : Nat) (d : DS) (v : Value) (a : List Int) : Prop where
  l : Lw W (XB W.heap.size v) w g d
  row : w.ownsRow 0 5 1 v a.length (cellsOf a)
  old : ∀ k, v.ownBlock = some k → W.heap.size ≤ k
section
variable {W w w' : World} {g : Nat} {d d' : DS} {v : Value} {a : List Int}
theorem Ar.step (h : Ar W w g d v a) (hq : Dq (XB W.heap.size v) w' g d') (hk : Kx (XB W.heap.size v) w w') : Ar W w' g d' v a := by
  refine ⟨h.l.step hq hk, ⟨h.row.1, ?_⟩, h.old⟩
  rcases h.row.2 with hv | ⟨q, cap, cur, hv, hb, hh, rest⟩
  · exact .inl hv
  · exact .inr ⟨q, cap, cur, hv, hb, (hk.same (.inr (by rw [hv]; rfl)) (Array.getElem?_eq_some_iff.1 hh).1).trans hh, rest⟩
/-- all = append(all, p...). -/
theorem Ar.app (h : Ar W w g d v a) {A : Option Addr} {n c : Nat} {zs : List Int} (hn : zs.length = n) (hc : A = none → c = 0) (hl : Lies w A zs) (hb : a.length + n ≤ 140737488355328) :
    ∀ ty, ∃ v' w', (Builtin.append_ #[27, 27] ty #[v, .slice A n c]).run Try.prog w = .ok v' w' ∧ ((∃ A' c', v' = .slice A' (a.length + zs.length) c') ∧ Ar W w' g d v' (a ++ zs)) := by
  intro ty
  obtain ⟨i0, hi, hz0, hz1, hz2⟩ := info_parts Try.info5
  obtain ⟨v', w', hr, hown, hg, hwh⟩ := append_bytes (P := Try.prog) (w := w) 27 ty 5 i0 (.int .u8 0) Try.underlying27 hi hz0 hz1 hz2 rfl v _ a h.row A n c zs hn hc hl hb
  have hlen : (a ++ zs).length = a.length + n := by rw [List.length_append, hn]
  obtain ⟨A', c', e, _⟩ := own_shape hown
  refine ⟨v', w', hr, ⟨A', c', by rw [hn]; exact e⟩, ⟨h.l.low.grown hg h.l.low.size (fun k hk => h.old k hk), ?_, fun k hk => .inl hk⟩, by rw [hlen]; exact hown, fun k hk => ?_⟩
  · obtain ⟨S, hd, h1, h2⟩ := h.l.q
    refine ⟨S, hd.kept hg.size fun k hk => hg.block k (hd.lt k hk) fun e => h1 k hk (.inr e.symm), fun k hk x => ?_, fun k hk => ?_⟩
    · rcases x with x | x
      · exact h1 k hk (.inl x)
      · rcases hwh k x with y | y
        · exact h1 k hk (.inr y)
        · have := hd.lt k hk; omega
    · rcases hk with x | x
      · exact Nat.lt_of_lt_of_le (h2 k (.inl x)) hg.size
      · exact (hown.lt k x).2
  · rcases hwh k hk with y | y
    · exact h.old k y
    · exact Nat.le_trans h.l.low.size y.1
theorem Ar.start (h : Lw W (fun k => k < W.heap.size) w g d) : Ar W w g d (.slice none 0 0) [] :=
  ⟨⟨h.low, h.q.less (fun k hk => by rcases hk with hk | hk; exact hk; cases hk), fun k hk => .inl hk⟩, World.ownsRow_nil _ _ _ _, fun k hk => by cases hk⟩
end
/-- A part, cut to 50. -/
theorem cut_arg {W w : World} {X : Nat → Prop} {A : Option Addr} {n c : Nat} {zs : List Int} (h : SliceIn W A n c zs) (hb : Below W.heap.size W w) (hX : ∀ k, k < W.heap.size → X k) : Arg X w A (min 50 n) c (zs.take 50) :=
  ⟨by rw [List.length_take, h.len], (h.lies.take 50).below hb, fun hn a ha => (h.inX hX) (by rw [List.length_take] at hn; omega) a ha, fun z hz => h.oct z (List.mem_of_mem_take hz), h.nil⟩
/-- The round's part and what it makes. -/
theorem part_cell {W w : World} {A : Option Addr} {m c : Nat} {it : Nat → Sb} (h : PartsIn W A m c it) (hb : Below W.heap.size W w) {i : Nat} (hi : i < m) : ∃ b off, A = some ⟨b, off, none⟩ ∧ w.cell? ⟨b, off + i, none⟩ = some (.slice (it i).A (it i).n (it i).c) ∧ SliceIn W (it i).A (it i).n (it i).c (it i).zs := by
  obtain ⟨b, off, e, hl, hc, hs⟩ := h.at_ i hi
  exact ⟨b, off, e, (hb.cell (p := ⟨b, off + i, none⟩) hl).trans hc, hs⟩
/-- What a round does. -/
structure Rnd (W wr : World) (g k i : Nat) (v : Value) (a zs : List Int) (B : Option Addr) (n c : Nat) (x : Int) : Prop where
  app : Calls Try.prog 11 #[.pointer (some ⟨g, 0, none⟩), .string ⟨#[102]⟩, .slice B n c] wr fun e w' => e = .returned (.int .i64 x) ∧ Ar W w' g (stA k (i + 1) (if i < k then a ++ zs else a)) v a ∧ Lies w' B zs
theorem rnd {W wr : World} {g k i : Nat} {v : Value} {a zs : List Int} {B : Option Addr} {n c : Nat} (h : Ar W wr g (stA k i a) v a) (ha : a.length ≤ 1500) (hp : zs.length ≤ 50) (h0 : i = 0 → a = []) (hA : Arg (XB W.heap.size v) wr B n c zs) :
    Rnd W wr g k i v a zs B n c (if i < k then 0 else 10) := by
  refine ⟨(append_q (nm := nF) h.l.q (by decide) hA.len hA.nil hA.lies hA.inx hA.oct (by have := st_len k i a; omega)).mono fun e w' ⟨h1, h2, h3⟩ => ?_⟩
  by_cases hik : i < k
  · obtain ⟨e1, e2⟩ := st1 hik ha hp h0
    rw [if_pos hik, if_pos hik]
    exact ⟨by rw [h1, e1], h.step (e2 ▸ h2) h3, hA.lies.kx h3 hA.inx⟩
  · obtain ⟨e1, e2⟩ := st2 (k := k) (i := i) (by omega) ha hp
    rw [if_neg hik, if_neg hik]
    exact ⟨by rw [h1, e1], h.step (e2 ▸ h2) h3, hA.lies.kx h3 hA.inx⟩
/-- Behind the rounds: what is read, and what all is. -/
theorem end_read {W wr : World} {g k i : Nat} {v : Value} {a : List Int} (h : Ar W wr g (stA k i a) v a) (h0 : min i k = 0 → a = []) :
    Calls Try.prog 14 #[.pointer (some ⟨g, 0, none⟩), .string ⟨#[102]⟩] wr fun e w' => ∃ A c t, e = .returned (.tuple #[.slice A a.length c, .bool t]) ∧ Lies w' A a ∧ Lies wr A [] ∧ Ar W w' g (stA k i a) v a :=
  (read_run (nm := nF) h.l rfl (by decide)).mono fun e w' ⟨A, c, h1, h2, _, _, hb⟩ => by
    have e := st_find (k := k) (i := i) h0
    rw [e] at h1 h2
    exact ⟨A, c, _, h1, h2.lies, Lies.none_, h.step (h.l.q.below hb) (Kx.of_below hb)⟩
theorem end_crash {W wr : World} {X : Nat → Prop} {g k i : Nat} {a : List Int} (h : Lw W X wr g (stA k i a)) :
    Calls Try.prog 13 #[.pointer (some ⟨g, 0, none⟩), .slice none 0 0] wr fun e w' => e = .returned (.tuple #[]) ∧ Lw W X w' g (craS (stA k i a) []) :=
  (crash_q (ps := []) h.q (by have := st_len k i a; omega) (fun hn => absurd hn (by simp)) rfl (by simp) (InX.nil _ _) (fun p hp => by cases hp)).mono fun e w' ⟨h1, h2, h3⟩ => ⟨h1, h.step h2 h3⟩
theorem end_read2 {W wr : World} {X : Nat → Prop} {g k i : Nat} {a : List Int} (h : Lw W X wr g (craS (stA k i a) [])) :
    Calls Try.prog 14 #[.pointer (some ⟨g, 0, none⟩), .string ⟨#[102]⟩] wr fun e w' => ∃ A c t, e = .returned (.tuple #[.slice A 0 c, .bool t]) ∧ Lw W X w' g (craS (stA k i a) []) :=
  (read_run (nm := nF) h rfl (by decide)).mono fun e w' ⟨A, c, h1, h2, _, _, _⟩ => by
    rw [(st_crash k i a).1] at h1
    exact ⟨A, c, _, h1, h2.drop h.xs⟩
theorem end_app {W wr : World} {X : Nat → Prop} {g k i : Nat} {a : List Int} (h : Lw W X wr g (craS (stA k i a) [])) :
    Calls Try.prog 11 #[.pointer (some ⟨g, 0, none⟩), .string ⟨#[103]⟩, .slice none 0 0] wr fun e w' => e = .returned (.int .i64 0) ∧ Lw W X w' g (appS (craS (stA k i a) []) nG []) :=
  (append_q (nm := nG) (zs := []) h.q (by decide) rfl (fun _ => rfl) Lies.none_ (InX.nil _ _) (fun z hz => by cases hz) (by have := (st_crash k i a).2.2.2; omega)).mono fun e w' ⟨h1, h2, h3⟩ => ⟨by rw [h1, (st_crash k i a).2.2.1], h.step h2 h3⟩
theorem end_off {W wr : World} {X : Nat → Prop} {g k i : Nat} {a : List Int} (h : Lw W X wr g (craS (stA k i a) [])) :
    Calls Try.prog 17 #[.pointer (some ⟨g, 0, none⟩)] wr fun e w' => e = .returned (.bool false) ∧ wr = w' := off_q h.q
theorem rnd_off {W wr : World} {X : Nat → Prop} {g k i : Nat} {a : List Int} (h : Lw W X wr g (stA k (i + 1) a)) :
    Calls Try.prog 17 #[.pointer (some ⟨g, 0, none⟩)] wr fun e w' => e = .returned (.bool (decide (k ≤ i))) ∧ wr = w' :=
  (off_q h.q).mono fun e w' ⟨h1, h2⟩ => ⟨by rw [h1, st_off]; congr 2; simp; omega, h2⟩
set_option maxRecDepth 100000 in
set_option maxHeartbeats 8000000 in
theorem walk (n0 : Int) (A : Option Addr) (m c : Nat) (it : Nat → Sb) (W : World) (_ : -9223372036854775808 ≤ n0 ∧ n0 ≤ 9223372036854775807) (h : PartsIn W A m c it) :
    Calls Try.prog 6 #[.int .i64 n0, .slice A m c] W fun e w' => e = .returned (.bool true) ∧ Below W.heap.size W w' := by
  have hmx : (m : Int) ≤ 9223372036854775807 := by have := h.le; have := h.room; omega
  have hwb := withinI_bounds n0 0 20 (by omega)
  obtain ⟨k, hk⟩ : ∃ k : Nat, withinI n0 0 20 = k := ⟨(withinI n0 0 20).toNat, by omega⟩
  have hk20 : k ≤ 20 := by omega
  have hwi := hide (fun w => hk ▸ within_any n0 0 20 w (by omega) (by omega) (by omega))
  have HP := hide h
  clear hwb hk h
  go_enter Try.func6, Try.ntmps6
  go_wp2_with (first
    | (go_at_call 10; (with_reducible refine (new_q 1048576 W (by omega)).mono ?_); rintro e w1 ⟨g, rfl, hq, hb⟩; have L1 := hide (show Lw W (fun k => k < W.heap.size) w1 g d00 from Lw.start hq hb); clear hq hb)
    | (go_at_call 23; (with_reducible refine (hwi.out _).mono ?_); rintro e w2 ⟨rfl, rfl⟩)
    | (go_at_call 15; (with_reducible refine (arm_q L1.out.q (by omega)).mono ?_); rintro e w3 ⟨rfl, hq, hkx⟩; have L2 := hide (Ar.start (L1.out.step (st0 k ▸ hq) hkx)); clear hq hkx L1))
  go_loopw [8, 9] (fun v i wr => ∃ j : Nat, j ≤ m ∧ j ≤ 30 ∧ i = .int .i64 j ∧ Hid (Ar W wr g (stA k j (acc it (min j k))) v (acc it (min j k)))) (fun _ i _ => m - (intOf i).toNat)
  case atStart => exact ⟨0, by omega, by omega, rfl, by rw [Nat.zero_min]; exact L2⟩
  case round =>
    clear L2 hwi
    obtain ⟨j, hj, hj30, rfl, hL⟩ := hrel
    have hal := acc_len it (min j k)
    have ha : (acc it (min j k)).length ≤ 1500 := by omega
    have h0 := hide (show j = 0 → acc it (min j k) = [] from fun e => by subst e; rw [Nat.zero_min]; rfl)
    have h00 := hide (show min j k = 0 → acc it (min j k) = [] from fun e => by rw [e]; rfl)
    by_cases hlt : j < 30 ∧ j < m
    · obtain ⟨hlt1, hlt2⟩ := hlt
      obtain ⟨b, off, rfl, hc0, hs⟩ := part_cell HP.out hL.out.l.low hlt2
      have hcut := hide (cut_arg hs hL.out.l.low hL.out.l.xs)
      have hwhole := hide (SliceIn.arg hs hL.out.l)
      have hlen := hs.len
      have hroom := hs.room
      have hle := hs.le
      have hzs50 : ((it j).zs.take 50).length ≤ 50 := by rw [List.length_take]; omega
      have HZ50 := hide hzs50
      by_cases h50 : 50 < (it j).n
      · by_cases hik : j < k
        · have hik2 : j < k := by omega
          have hmin : min 50 (it j).n = 50 := by omega
          rw [hmin] at hcut
          have hzl : ((it j).zs.take 50).length = 50 := by rw [List.length_take]; omega
          have HR0 := (rnd hL.out ha hzs50 h0.out hcut.out).app
          rw [if_pos hik2, if_pos hik2] at HR0
          have HR := hide HR0
          have e1 : min j k = j := by omega
          have e2 : min (j + 1) k = j + 1 := by omega
          have HE := hide (show acc it (min j k) ++ ((it j).zs.take 50) = acc it (min (j + 1) k) from by rw [e1, e2, acc])
          have hbd : (acc it (min j k)).length + 50 ≤ 140737488355328 := by omega
          have HLN := hide hzl
          have HNIL := hide hs.nil
          clear hcut hwhole hL HR0 hzl hlen hzs50 HZ50 hs ha hal h0 h00 HP hmin e1 e2
          generalize acc it (min j k) = a at *
          generalize (it j).zs.take 50 = zs at *
          generalize (it j).A = B at *
          generalize (it j).c = cb at *
          generalize (it j).n = nn at *
          go_wp2_with (first
            | (go_at_call 11; (with_reducible refine HR.out.mono ?_); rintro e w4 ⟨rfl, hAr, hlz⟩; have HA := hide (hAr.app HLN.out HNIL.out hlz hbd); have H4 := hide hAr; clear hAr hlz HR)
            | (go_at_call 17; (with_reducible refine (rnd_off H4.out.l).mono ?_); rintro e w5 ⟨rfl, rfl⟩)
            | (at_builtin; refine wpList_append_full rfl (.tmp 78) (.tmp 79) 27 rfl _ _ _ _ rfl rfl _ HA.out ?_; intro v' w6 hX; obtain ⟨⟨A', c', rfl⟩, hAr⟩ := hX; have H6 := hide hAr; clear hAr HA H4))
          go_roundw
          case rel => exact ⟨j + 1, by omega, by omega, by go_num, HE.out ▸ H6.out⟩
          case measure => simp [intOf]; omega
        · have hik2 : ¬ j < k := by omega
          have hmin : min 50 (it j).n = 50 := by omega
          rw [hmin] at hcut
          have hzl : ((it j).zs.take 50).length = 50 := by rw [List.length_take]; omega
          have HR0 := (rnd hL.out ha hzs50 h0.out hcut.out).app
          rw [if_neg hik2, if_neg hik2] at HR0
          have HR := hide HR0
          have HE := hide (show acc it (min j k) = acc it (min (j + 1) k) from by rw [show min j k = min (j + 1) k by omega])
          have hbd : (acc it (min j k)).length + 50 ≤ 140737488355328 := by omega
          have HLN := hide hzl
          have HNIL := hide hs.nil
          clear hcut hwhole hL HR0 hzl hlen hzs50 HZ50 hs ha hal h0 h00 HP hmin
          generalize acc it (min j k) = a at *
          generalize (it j).zs.take 50 = zs at *
          generalize (it j).A = B at *
          generalize (it j).c = cb at *
          generalize (it j).n = nn at *
          go_wp2_with (first
            | (go_at_call 11; (with_reducible refine HR.out.mono ?_); rintro e w4 ⟨rfl, hAr, hlz⟩; have H4 := hide hAr; clear hAr hlz HR)
            | (go_at_call 17; (with_reducible refine (rnd_off H4.out.l).mono ?_); rintro e w5 ⟨rfl, rfl⟩))
          go_roundw
          case rel => exact ⟨j + 1, by omega, by omega, by go_num, HE.out ▸ H4.out⟩
          case measure => simp [intOf]; omega
      · by_cases hik : j < k
        · have hik2 : j < k := by omega
          have htk : (it j).zs.take 50 = (it j).zs := List.take_of_length_le (by omega)
          have hzl : (it j).zs.length = (it j).n := hlen
          have hn50 : (it j).n ≤ 50 := by omega
          have HR0 := (rnd hL.out ha (by omega) h0.out hwhole.out).app
          rw [if_pos hik2, if_pos hik2] at HR0
          have HR := hide HR0
          have e1 : min j k = j := by omega
          have e2 : min (j + 1) k = j + 1 := by omega
          have HE := hide (show acc it (min j k) ++ (it j).zs = acc it (min (j + 1) k) from by rw [e1, e2, acc, htk])
          have hbd : (acc it (min j k)).length + (it j).n ≤ 140737488355328 := by omega
          have HLN := hide hzl
          have HNIL := hide hs.nil
          clear hcut hwhole hL HR0 hzl hlen hzs50 HZ50 hs ha hal h0 h00 HP htk e1 e2
          generalize acc it (min j k) = a at *
          generalize (it j).zs = zs at *
          generalize (it j).A = B at *
          generalize (it j).c = cb at *
          generalize (it j).n = nn at *
          go_wp2_with (first
            | (go_at_call 11; (with_reducible refine HR.out.mono ?_); rintro e w4 ⟨rfl, hAr, hlz⟩; have HA := hide (hAr.app HLN.out HNIL.out hlz hbd); have H4 := hide hAr; clear hAr hlz HR)
            | (go_at_call 17; (with_reducible refine (rnd_off H4.out.l).mono ?_); rintro e w5 ⟨rfl, rfl⟩)
            | (at_builtin; refine wpList_append_full rfl (.tmp 78) (.tmp 79) 27 rfl _ _ _ _ rfl rfl _ HA.out ?_; intro v' w6 hX; obtain ⟨⟨A', c', rfl⟩, hAr⟩ := hX; have H6 := hide hAr; clear hAr HA H4))
          go_roundw
          case rel => exact ⟨j + 1, by omega, by omega, by go_num, HE.out ▸ H6.out⟩
          case measure => simp [intOf]; omega
        · have hik2 : ¬ j < k := by omega
          have htk : (it j).zs.take 50 = (it j).zs := List.take_of_length_le (by omega)
          have hzl : (it j).zs.length = (it j).n := hlen
          have hn50 : (it j).n ≤ 50 := by omega
          have HR0 := (rnd hL.out ha (by omega) h0.out hwhole.out).app
          rw [if_neg hik2, if_neg hik2] at HR0
          have HR := hide HR0
          have HE := hide (show acc it (min j k) = acc it (min (j + 1) k) from by rw [show min j k = min (j + 1) k by omega])
          have hbd : (acc it (min j k)).length + (it j).n ≤ 140737488355328 := by omega
          have HLN := hide hzl
          have HNIL := hide hs.nil
          clear hcut hwhole hL HR0 hzl hlen hzs50 HZ50 hs ha hal h0 h00 HP htk
          generalize acc it (min j k) = a at *
          generalize (it j).zs = zs at *
          generalize (it j).A = B at *
          generalize (it j).c = cb at *
          generalize (it j).n = nn at *
          go_wp2_with (first
            | (go_at_call 11; (with_reducible refine HR.out.mono ?_); rintro e w4 ⟨rfl, hAr, hlz⟩; have H4 := hide hAr; clear hAr hlz HR)
            | (go_at_call 17; (with_reducible refine (rnd_off H4.out.l).mono ?_); rintro e w5 ⟨rfl, rfl⟩))
          go_roundw
          case rel => exact ⟨j + 1, by omega, by omega, by go_num, HE.out ▸ H4.out⟩
          case measure => simp [intOf]; omega
    · have hlt' : ¬ (j < 30 ∧ j < m) := hlt
      obtain ⟨A8, c8, hv, _⟩ := own_shape hL.out.row
      subst hv
      have HRD := hide (end_read hL.out h00.out)
      have hlz := hide (Lies.of_own hL.out.row)
      have hx := hide hL.out.l.xs
      clear hlt h0 h00 hL hal HP
      generalize acc it (min j k) = a at *
      have la : a.length ≤ 4611686018427387904 := by omega
      have hjj : j < m → 30 ≤ j := by omega
      by_cases hjm : j < m
      all_goals
        go_wp2_with (first
          | (go_at_call 14; (with_reducible refine HRD.out.mono ?_); rintro e w5 ⟨A5, c5, t5, rfl, hz5, _, hAr⟩; have H5 := hide hAr; have HS := hide (same_run (k := c8) (c := c5) hAr.l hz5 (Lies.of_own hAr.row) rfl rfl la la (decide_eq_true rfl)); clear hAr hz5 HRD hlz)
          | (go_at_call 16; (with_reducible refine HS.out.mono ?_); rintro e w6 ⟨rfl, h2, hb2⟩; have H6 := hide (end_crash h2); clear h2 hb2 HS H5)
          | (go_at_call 13; (with_reducible refine H6.out.mono ?_); rintro e w7 ⟨rfl, h2⟩; have H7 := hide h2; clear h2 H6)
          | (go_at_call 14; (with_reducible refine (end_read2 H7.out).mono ?_); rintro e w8 ⟨A9, c9, t9, rfl, h2⟩; have H8 := hide h2; clear h2 H7)
          | (go_at_call 17; (with_reducible refine (end_off H8.out).mono ?_); rintro e w9 ⟨rfl, rfl⟩)
          | (go_at_call 11; (with_reducible refine (end_app H8.out).mono ?_); rintro e w9 ⟨rfl, h2⟩; have H9 := hide h2; clear h2 H8)
          | (go_at_call 3; (with_reducible refine (run_run H9.out).mono ?_); rintro e w9 ⟨rfl, hbw⟩))
        go_ret
        exact ⟨rfl, hbw⟩
set_option maxRecDepth 100000 in
theorem lifted (os : Os) (started : os.Started) (H : Type) (enc : TypeId × Value → H) :
    ReturnsInHanded {} Try.checked os 6 .any (Rows.diskArmsSpec.pre6 enc Try.prog Try.f6 Rows.diskArmsRow.domain false) (Rows.diskArmsSpec.post enc Try.prog Try.f6 false true false false) := by
  refine returnsInHanded_of_change_sized (C := Try.checked) own started (by kernel_rfl) Try.func6
    (ChangeSpec.witness6 (enc := enc) (C := Try.checked) false ⟨#[], #[.int .i64 0, .slice none 0 0], []⟩ 8 (by kernel_rfl) (by kernel_rfl) (by kernel_rfl) (by kernel_rfl)) ?_
  intro W base args ds gs before hval0 hW _ hsz0 _
  have hval : ∀ (j : Nat) t v, Try.f6.params[j]? = some t → args[j]? = some v → Value.okWide Try.prog W .any base t v := hval0
  have hW' := hW
  obtain ⟨p, q, hA0, hV, rfl, _, _⟩ := hW
  have hA : DataW.TrodAll enc Try.prog W 0 (fun _ => true) true Try.f6.params.toList args.toList ds p := hA0
  have hsz : (DataW.weightsEach Try.prog (Try.f6.params.toList ++ Rows.diskArmsSpec.plain.varTypes Try.prog) (ds ++ gs)).all (· ≤ reachBytes) = true := hsz0
  rw [Try.params6] at hA hval hsz
  obtain ⟨v0, vs0, d0, ds0, p0, q0, hargs, rfl, rfl, h0, r0⟩ := trodAll_cons hA
  obtain ⟨v1, vs1, d1, ds1, p1, q1, rfl, rfl, rfl, h1, r1⟩ := trodAll_cons r0
  obtain ⟨rfl, rfl, rfl⟩ := trodAll_nil r1
  obtain rfl : args = #[v0, v1] := by cases args; simp_all
  obtain ⟨rfl, rfl⟩ := trodVars_none hV
  obtain ⟨a0, rfl, rfl, rfl, w0⟩ := open_int Try.underlying3 (hval 0 3 v0 rfl rfl) h0
  have k1 := h1
  have lt1 : ∀ x ∈ p1, x.block < W.heap.size := by obtain ⟨m, hm⟩ := k1; exact DataW.trod_lt m _ _ _ hm
  obtain ⟨A1, n1, c1, rfl⟩ := okWide_slice Try.underlying47 (hval 1 47 v1 rfl rfl)
  obtain ⟨z1, s1⟩ := parts_in (j := 1) h1 hsz rfl rfl
  clear hA0 hval0
  refine (walk a0 A1 n1 c1 z1 W (bounds_i64 w0) s1).mono fun e W' ⟨he, bel⟩ => ?_
  subst he
  exact ⟨_, rfl, _, _, _, [], _, [], hW', trodAll_mk1 (shut_bool Try.underlying4 _), (trodAll_cons_mk (shut_int Try.underlying3 w0) (trodAll_cons_mk (Below.trod laidOut (by kernel_rfl) (of_decide_eq_true (by kernel_rfl)) k1 bel lt1) trodAll_mk0)), rfl, bel.frame _, fun h => by cases h⟩
theorem over : Rows.diskArmsRow.holds Try.pinned (OpenSpec.ofChange Rows.diskArmsSpec) :=
  OpenClaim.holds_of_wide 6 Try.f6 rfl rfl rfl rfl rfl rfl rfl ⟨rfl, rfl, rfl, rfl, rfl⟩ rfl rfl rfl rfl rfl (by kernel_rfl) Try.func6 (by kernel_rfl)
    (of_decide_eq_true (by kernel_rfl)) (by unfold Func.isWrapper; first | (rw [if_pos (by decide +kernel)]; kernel_rfl) | (rw [if_neg (by decide +kernel)]; exact ⟨rfl, rfl⟩))
    (fun os started H enc _ => lifted os started H enc)
theorem proved : Rows.DiskArmsSaid := over
end Go.Proofs.Ytllgjbkmemheoaa.diskArms
