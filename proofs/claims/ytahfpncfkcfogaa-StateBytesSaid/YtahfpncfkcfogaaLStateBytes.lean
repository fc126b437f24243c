/- Proved: the law StateBytes returns true. Conditions: none beyond the row's own. -/
import Derived.Test.YtahfpncfkcfogaaGa
import Derived.Test.YtahfpncfkcfogaaGbk
import Derived.Test.YtahfpncfkcfogaaGq
import Derived.Test.YtahfpncfkcfogaaQh
import Derived.Test.YtahfpncfkcfogaaGy
import Derived.Test.YtahfpncfkcfogaaWithin
import Derived.Test.YtahfpncfkcfogaaTm
import Derived.Test.YtahfpncfkcfogaaGx
import Derived.Deep.DeepCutAuto
import Derived.Deep.CutBlock
namespace Go.Proofs.Ytahfpncfkcfogaa.stateBytes
open Go.ChangeShapes Go.WideShapes Go.ChangeAt Go.RowKit
/-- Bytes that lie in a slice of few. -/
structure Bb (w : World) (A : Option Addr) (n c : Nat) (zs : List Int) : Prop where
  len : zs.length = n
  lies : Lies w A zs
  oct : Octets zs
  nil : A = none → c = 0
  le : n ≤ c
  few : n ≤ 60000
theorem Bb.below {w w' : World} {A : Option Addr} {n c : Nat} {zs : List Int} (h : Bb w A n c zs) (hb : Below w.heap.size w w') : Bb w' A n c zs := ⟨h.len, h.lies.below hb, h.oct, h.nil, h.le, h.few⟩
/-- A state behind a pointer, along a loop. -/
structure Rq (W w : World) (g : Nat) (s : Sm) (p : Value) (M : List Co) : Prop where
  row : Row w g 30 (stc p M)
  st : NewS (g + 1) w p M s
  bel : Below W.heap.size W w
  hg : W.heap.size ≤ g
theorem Rq.set {W w w' : World} {g : Nat} {s s' : Sm} {p p' : Value} {M M' : List Co} (h : Rq W w g s p M) (hn : NewS w.heap.size w' p' M' s') (hb : Below w.heap.size w w') : Rq W (w'.setRow g (stc p' M')) g s' p' M' := by
  have g1 := h.row.lt
  have g2 := h.hg
  exact ⟨(h.row.below hb g1).setRow _, (hn.mono (by omega)).grownOff (setRow_grown w' g _) (hn.offNew g1), below_setRow (kept_trans h.bel hb) g2 _, g2⟩
theorem by_form {b : Nat} {w : World} {v : Value} {zs : List Int} (h : By b w v zs) (h1 : 1 ≤ zs.length) : ∃ g c, v = .slice (some ⟨g, 0, none⟩) zs.length c ∧ zs.length ≤ c ∧ b ≤ g ∧ c ≤ 9223372036854775807 := by
  rcases h.2 with ⟨_, e⟩ | ⟨g, c, cur, e, hb, _, hc, hm, _⟩
  · omega
  · exact ⟨g, c, e, hc, hb, Nat.le_trans hm (by unfold maxLen; omega)⟩
theorem by_put {b g n c : Nat} {w : World} {zs : List Int} (h : By b w (.slice (some ⟨g, 0, none⟩) n c) zs) (hn : zs.length = n) (k : Nat) (z : Int) : Lies (w.setCell ⟨g, k, none⟩ (.int .u8 z)) (some ⟨g, 0, none⟩) (zs.set k z) := by
  unfold By at h
  rw [hn] at h
  have hs := (h.stored k (.int .u8 z)).1
  refine Lies.of_own (base := b) (e := 5) (n := n) (c := c) ?_
  unfold cellsOf at hs ⊢
  rw [List.map_set]
  exact hs
theorem by_cell {b g n c : Nat} {w : World} {zs : List Int} (h : By b w (.slice (some ⟨g, 0, none⟩) n c) zs) (hn : zs.length = n) {k : Nat} (hk : k < n) : w.cell? ⟨g, k, none⟩ = some (.int .u8 (ix zs k)) ∧ w.frozen? ⟨g, k, none⟩ = false := by
  unfold By at h
  rw [hn] at h
  exact ⟨by rw [h.cellAt k (by omega), cellsOf_at _ (by omega)], h.frozenAt k⟩
theorem by_one (w : World) (z : Int) : By w.heap.size (w.alloc (.cells #[.int .u8 z] 5)) (.slice (some ⟨w.heap.size, 0, none⟩) 1 1) [z] :=
  World.ownsRow_lit w #[.int .u8 z] 1 (Nat.le_refl _) (by unfold maxLen; omega) rfl
theorem front {w : World} {A : Option Addr} {zs ys : List Int} (h : Lies w A (zs ++ ys)) : Lies w A zs := by
  have := h.take zs.length
  rwa [List.take_left] at this
theorem octets_take {zs : List Int} (h : Octets zs) (k : Nat) : Octets (zs.take k) := fun z hz => h z (List.mem_of_mem_take hz)
theorem octets_set {zs : List Int} (h : Octets zs) (k : Nat) {t : Int} (ht : 0 ≤ t ∧ t ≤ 255) : Octets (zs.set k t) := fun z hz => by
  rcases List.mem_or_eq_of_mem_set hz with hz | rfl
  · exact h z hz
  · exact ht
theorem get_is {w : World} {A : Option Addr} {n c : Nat} {z : List Int} {s : Sm} {f : Int} (hd : decS z = (s, f)) (h : Bb w A n c z) :
    Calls Try.prog 30 #[.slice A n c] w fun e w' => ∃ p M, e = .returned (.tuple #[.agg (stc p M), .int .i64 f]) ∧ NewS w.heap.size w' p M s ∧ Below w.heap.size w w' :=
  (getS_any A n c z w h.len h.lies h.oct h.nil (by have := h.few; omega)).mono fun _ _ ⟨p, M, e, h1, h2⟩ => ⟨p, M, by rw [e, hd], by rw [hd] at h1; exact h1, h2⟩
theorem rget_is {w : World} {A : Option Addr} {n c : Nat} {z : List Int} {s : Sm} {f : Int} (hd : decS z = (s, f)) (h : Bb w A n c z) :
    Calls Try.prog 31 #[.slice A n c] w fun e w' => ∃ p M, e = .returned (.tuple #[.agg (stc p M), .int .i64 f]) ∧ NewS w.heap.size w' p M s ∧ Below w.heap.size w w' :=
  (rgetS_any A n c z w h.len h.lies h.oct h.le (by have := h.few; omega)).mono fun _ _ ⟨p, M, e, h1, h2⟩ => ⟨p, M, by rw [e, hd], by rw [hd] at h1; exact h1, h2⟩
theorem states_self {w : World} {p q : Value} {L M : List Co} {s : Sm} (h : IsS w p L s) (k : IsS w q M s) :
    Calls Try.prog 18 #[.agg (stc p L), .agg (stc q M)] w fun e w' => e = .returned (.bool true) ∧ Below w.heap.size w w' := by
  have h1 := states_any p q L M s s w h k
  rw [(eqS_iff s s).2 rfl] at h1
  exact h1
set_option maxRecDepth 100000 in
set_option maxHeartbeats 16000000 in
theorem walk (Ab : Option Addr) (nb cb : Nat) (zb : List Int) (A : Option Addr) (n cc : Nat) (it : Nat → Cm) (ia bt how : Int) (W : World) (hb : SliceIn W Ab nb cb zb) (h : CmsIn W A n cc it) (_ : -9223372036854775808 ≤ ia ∧ ia ≤ 9223372036854775807) (ht : 0 ≤ bt ∧ bt ≤ 255) (_ : -9223372036854775808 ≤ how ∧ how ≤ 9223372036854775807) :
    Calls Try.prog 7 #[.slice Ab nb cb, .slice A n cc, .int .i64 ia, .int .u8 bt, .int .i64 how] W fun e w' => e = .returned (.bool true) ∧ Below W.heap.size W w' := by
  have RUN := hide (fun w => runs_any w)
  have hm60 : min n 60 ≤ 60 := Nat.min_le_right _ _
  have HC := hide (h.cml (min n 60) (Nat.min_le_left _ _))
  have HCL := hide (cmsL_len it (min n 60))
  have HSH := hide (fun w => short_any A n cc w h.le h.room)
  have HSB := hide hb
  have HTO := hide ht
  have HW2 := hide fun w1 => within_any how 0 2 w1 (by omega) (by omega) (by omega)
  have b2 := withinI_bounds how 0 2 (by omega)
  generalize withinI how 0 2 = t2 at HW2 b2
  have hcb := hb.le
  have hrb := hb.room
  clear h hb ht
  generalize cmsL it (min n 60) = cs at HC HCL
  generalize min n 60 = m at HCL HSH hm60
  have Z1 := hide (slice_one none 0 0)
  have Z8 : Hid (zeroL.length = 8) := hide rfl
  go_enter Try.func7, Try.ntmps7
  go_upto_if 26 with (fail)
  go_cut [0] (fun s0 wx => ∃ (n' : Nat) (z' : List Int), s0 = .slice Ab n' cb ∧ Hid (Bb W Ab n' cb z') ∧ Hid (n' ≤ 500) ∧ Hid (Below W.heap.size W wx))
  case first =>
    by_cases h5 : 500 < nb
    · have hb5 : decide ((500 : Int) < (nb : Int)) = true := by simp; omega
      have h5c : (500 : Int) ≤ (cb : Int) := by omega
      have hcb' : (nb : Int) ≤ (cb : Int) := by omega
      go_wp2
      go_meet
      exact ⟨500, zb.take 500, rfl, hide ⟨by rw [List.length_take, HSB.out.len]; omega, HSB.out.lies.take 500, octets_take HSB.out.oct 500, HSB.out.nil, by omega, by omega⟩, hide (Nat.le_refl _), hide (kept_refl _)⟩
    · have hb5 : decide ((500 : Int) < (nb : Int)) = false := by simp; omega
      go_wp2
      go_meet
      exact ⟨nb, zb, rfl, hide ⟨HSB.out.len, HSB.out.lies, HSB.out.oct, HSB.out.nil, by omega, by omega⟩, hide (by omega), hide (kept_refl _)⟩
  case rest =>
    obtain ⟨n', z', rfl, HB0, HN5, HK0⟩ := hcut
    obtain ⟨wA, hwA⟩ : ∃ x, x = wc := ⟨_, rfl⟩
    subst hwA
    have HC1 := hide (HC.out.below HK0.out)
    clear HC HSB hcb
    go_upto_region 4 with (first
      | ((with_reducible refine wpList_store49n (q := .slice none 0 0) (M := zeroL) ?_ ?_ Z1.out Z8.out ?_); rfl; rfl))
    have HQ : Hid (Rq wA (wA.alloc (.cells (stc (.slice none 0 0) zeroL) 30)) wA.heap.size zeroS (.slice none 0 0) zeroL) := hide ⟨Row.new wA _ _, zero_new _ _, kept_alloc (kept_refl wA) _, Nat.le_refl _⟩
    generalize wA.alloc (.cells (stc (.slice none 0 0) zeroL) 30) = w3 at HQ ⊢
    generalize wA.heap.size = g at HQ ⊢
    go_wp2_with (first
      | (go_at_call 14; (with_reducible refine (HSH.out _).mono ?_); rintro e w4 ⟨rfl, rfl⟩))
    go_loopw [12] (fun i wr => ∃ (k : Nat) (p : Value) (M : List Co), k ≤ m ∧ i = .int .i64 k ∧ Hid (Rq wA wr g (playP zeroS (cs.take k)).1 p M)) (fun i _ => m - (intOf i).toNat)
    case atStart => exact ⟨0, _, _, by omega, rfl, HQ⟩
    case round =>
      obtain ⟨k, p, M, hk, rfl, HM⟩ := hrel
      by_cases hlt : k < m
      · obtain ⟨x, hx⟩ : ∃ x, cs[k]? = some x := ⟨_, List.getElem?_eq_getElem (by rw [HCL.out]; exact hlt)⟩
        have HNX := hide (play_next zeroS hx)
        have HUK := hide (play0_up (cs.take k))
        obtain ⟨y, hy⟩ : ∃ y, playP zeroS (cs.take k) = y := ⟨_, rfl⟩
        rw [hy] at HM HNX HUK
        clear hy
        obtain ⟨sk, rk⟩ := y
        dsimp only at HM HNX HUK
        have HSK : Hid (sk.l.length ≤ 1000) := hide (by have h1 := HUK.out.2; rw [List.length_take] at h1; omega)
        obtain ⟨b, off, rfl, hbs, ca⟩ := (HC1.out.below HM.out.bel).at_ hx
        have CA := hide ca
        have HBS := hide hbs
        have hlt' : (k : Int) < (m : Int) := by omega
        have H8M := hide HM.out.st.eight
        clear ca hx hbs
        go_upto_region 8 with (fail)
        refine wp_region_noPanic ?_
        refine wp_region_U 9 (fun w' => Below wr.heap.size wr w') (by kernel_rfl) ?_
        have HD := hide (show Below wr.heap.size wr (World.drew wr) from kept_drewN (kept_refl wr) 1)
        generalize World.drew _ = wd at HD ⊢
        refine anyU_take (i := 0) (v := .agg (stc p M)) (by simp only [List.getElem?_toArray, List.getElem?_cons_zero]; exact rfl) (by kernel_rfl) (by kernel_rfl) (by kernel_rfl) (fun _ _ _ h => h) (by kernel_rfl) (by kernel_rfl) (by kernel_rfl) (yields_load49 (x := .tmp 11) (by rfl) (by rfl) (by rfl) H8M.out (fun _ h => HM.out.row.below h HM.out.row.lt)) (by with_reducible exact HD.out) ?_
        try simp only [Act.put, List.setIfInBounds_toArray, List.set_cons_zero, List.set_cons_succ]
        refine anyU_take (i := 1) (v := ?ov1a) (by simp only [List.getElem?_toArray, List.getElem?_cons_succ, List.getElem?_cons_zero]; exact rfl) (by kernel_rfl) (by kernel_rfl) (by kernel_rfl) (fun _ _ _ h => h) (by kernel_rfl) (by kernel_rfl) (by kernel_rfl) (Or.inl ⟨by rfl, ?oy1a⟩) (by with_reducible exact HD.out) ?or1a
        case oy1a => (intro w hSw; skip; go_simp; try with_reducible rfl)
        try simp only [Act.put, List.setIfInBounds_toArray, List.set_cons_zero, List.set_cons_succ]
        refine anyU_take (i := 2) (v := ?ov2a) (by simp only [List.getElem?_toArray, List.getElem?_cons_succ, List.getElem?_cons_zero]; exact rfl) (by kernel_rfl) (by kernel_rfl) (by kernel_rfl) (fun _ _ _ h => h) (by kernel_rfl) (by kernel_rfl) (by kernel_rfl) (Or.inl ⟨by rfl, ?oy2a⟩) (by with_reducible exact HD.out) ?or2a
        case oy2a => (intro w hSw; skip; go_simp; try with_reducible rfl)
        try simp only [Act.put, List.setIfInBounds_toArray, List.set_cons_zero, List.set_cons_succ]
        refine anyU_take (i := 3) (v := ?ov3a) (by simp only [List.getElem?_toArray, List.getElem?_cons_succ, List.getElem?_cons_zero]; exact rfl) (by kernel_rfl) (by kernel_rfl) (by kernel_rfl) (fun _ _ _ h => h) (by kernel_rfl) (by kernel_rfl) (by kernel_rfl) (Or.inl ⟨by rfl, ?oy3a⟩) (by with_reducible exact HD.out) ?or3a
        case oy3a => (intro w hSw; skip; go_simp; try with_reducible rfl)
        try simp only [Act.put, List.setIfInBounds_toArray, List.set_cons_zero, List.set_cons_succ]
        refine anyU_take (i := 4) (v := ?ov4a) (by simp only [List.getElem?_toArray, List.getElem?_cons_succ, List.getElem?_cons_zero]; exact rfl) (by kernel_rfl) (by kernel_rfl) (by kernel_rfl) (fun _ _ _ h => h) (by kernel_rfl) (by kernel_rfl) (by kernel_rfl) (Or.inl ⟨by rfl, ?oy4a⟩) (by with_reducible exact HD.out) ?or4a
        case oy4a => (intro w hSw; have hc := CA.out.below hSw HBS.out; have q0 := hc.c0; have q1 := hc.c1; have q2 := hc.c2; have q3 := hc.c3; have q4 := hc.c4; have q5 := hc.c5; have q6 := hc.c6; clear hc; go_simp; try with_reducible rfl)
        try simp only [Act.put, List.setIfInBounds_toArray, List.set_cons_zero, List.set_cons_succ]
        refine anyU_one (i := 5) (by kernel_rfl) (by simp only [List.getElem?_toArray, List.getElem?_cons_succ, List.getElem?_cons_zero]; exact rfl) (fun K hK => ?_)
        try go_simp
        refine (rapply_any p M sk x wd (HM.out.st.isS.below HD.out) HUK.out.1 HSK.out).mono ?_
        rintro e w5 ⟨p5, M5, q5, rfl, hn5, hq5, ln5, _, hb5⟩
        have H85 := hide hn5.eight
        have H15 := hide hn5.one
        have HD5 := hide (kept_trans HD.out hb5)
        have N5 := hide (hn5.mono HD.out.size)
        clear hn5 hq5 ln5 hb5
        refine hK.out _ _ (fun e _ => HD5.out) ?_
        clear hK K
        try simp only [Act.put, List.setIfInBounds_toArray, List.set_cons_zero, List.set_cons_succ]
        refine anyU_take (i := 6) (v := ?ov6a) (by simp only [List.getElem?_toArray, List.getElem?_cons_succ, List.getElem?_cons_zero]; exact rfl) (by kernel_rfl) (by kernel_rfl) (by kernel_rfl) (fun _ _ _ h => h) (by kernel_rfl) (by kernel_rfl) (by kernel_rfl) (Or.inl ⟨by rfl, ?oy6a⟩) (by with_reducible exact HD5.out) ?or6a
        case oy6a => (intro w hSw; skip; go_simp; try with_reducible rfl)
        try simp only [Act.put, List.setIfInBounds_toArray, List.set_cons_zero, List.set_cons_succ]
        refine anyU_take (i := 7) (v := ?ov7a) (by simp only [List.getElem?_toArray, List.getElem?_cons_succ, List.getElem?_cons_zero]; exact rfl) (by kernel_rfl) (by kernel_rfl) (by kernel_rfl) (fun _ _ _ h => h) (by kernel_rfl) (by kernel_rfl) (by kernel_rfl) (Or.inl ⟨by rfl, ?oy7a⟩) (by with_reducible exact HD5.out) ?or7a
        case oy7a => (intro w hSw; skip; go_simp; try with_reducible rfl)
        try simp only [Act.put, List.setIfInBounds_toArray, List.set_cons_zero, List.set_cons_succ]
        refine anyU_two (i := 8) (j := 9) (by kernel_rfl) (by simp only [List.getElem?_toArray, List.getElem?_cons_succ, List.getElem?_cons_zero]; exact rfl) (by simp only [List.getElem?_toArray, List.getElem?_cons_succ, List.getElem?_cons_zero]; exact rfl) (fun K hK => ?_) (fun K hK => ?_)
        · skip
          try go_simp
          refine hK.out _ _ (fun e _ => HD5.out) ?_
          clear hK K
          try simp only [Act.put, List.setIfInBounds_toArray, List.set_cons_zero, List.set_cons_succ]
          refine anyU_one (i := 9) (by kernel_rfl) (by simp only [List.getElem?_toArray, List.getElem?_cons_succ, List.getElem?_cons_zero]; exact rfl) (fun K hK => ?_)
          refine step_store49 (x := .tmp 11) (y := .tmp 45) rfl rfl H15.out (HM.out.row.below HD5.out HM.out.row.lt) H8M.out H85.out ?_
          refine hK.out _ _ (fun e _ => absurd rfl e) ?_
          clear hK K
          try simp only [Act.put]
          refine anyU_done (by kernel_rfl) ?_
          refine NoPanic.normal ?_
          try simp only [Act.put]
          have HZ := hide (HM.out.set N5.out HD5.out)
          generalize w5.setRow g (stc p5 M5) = w6 at HZ ⊢
          go_wp2_with fail
          go_roundw
          case rel => exact ⟨k + 1, p5, M5, by omega, by go_num, hide (by rw [HNX.out]; exact HZ.out)⟩
          case measure => simp [intOf]; omega
        · skip
          refine step_store49 (x := .tmp 11) (y := .tmp 45) rfl rfl H15.out (HM.out.row.below HD5.out HM.out.row.lt) H8M.out H85.out ?_
          refine hK.out _ _ (fun e _ => absurd rfl e) ?_
          clear hK K
          try simp only [Act.put]
          refine anyU_one (i := 8) (by kernel_rfl) (by simp only [List.getElem?_toArray, List.getElem?_cons_succ, List.getElem?_cons_zero]; exact rfl) (fun K hK => ?_)
          try go_simp
          refine hK.out _ _ (fun _ l => absurd (l.symm.trans (show _ = true by kernel_rfl)) (by decide)) ?_
          clear hK K
          try simp only [Act.put, List.setIfInBounds_toArray, List.set_cons_zero, List.set_cons_succ]
          refine anyU_done (by kernel_rfl) ?_
          refine NoPanic.normal ?_
          try simp only [Act.put]
          have HZ := hide (HM.out.set N5.out HD5.out)
          generalize w5.setRow g (stc p5 M5) = w6 at HZ ⊢
          go_wp2_with fail
          go_roundw
          case rel => exact ⟨k + 1, p5, M5, by omega, by go_num, hide (by rw [HNX.out]; exact HZ.out)⟩
          case measure => simp [intOf]; omega
      · obtain rfl : k = m := by omega
        have hnl : ¬ ((k : Int) < (k : Int)) := by omega
        rw [List.take_of_length_le (by rw [HCL.out]; exact Nat.le_refl _)] at HM
        have HRs := hide (play0_right cs (by rw [HCL.out]; omega))
        have HBD := hide (HRs.out.bd (play_bo cs Rs.zero Bo.zero (by omega) (by rw [HCL.out]; omega) |> fun h => by simpa using h) (by rw [HCL.out]; omega))
        have HES : Hid (1 ≤ (encS (playP zeroS cs).1).length ∧ (encS (playP zeroS cs).1).length ≤ 50000 ∧ Octets (encS (playP zeroS cs).1)) := hide ⟨by unfold encS; rw [if_pos HRs.out.right]; exact encA_pos _, encS_len HRs.out.eight, octets_encS _⟩
        have H8M := hide HM.out.st.eight
        have HR := hide HM.out.row
        have HPU := hide (rputS_any p M (playP zeroS cs).1 wr HM.out.st.isS HBD.out)
        have HK1 := hide (kept_trans HK0.out HM.out.bel)
        have HWR := hide HK1.out.size
        clear HM HRs HBD HK0 HC1 HCL HSH
        generalize encS (playP zeroS cs).1 = zp at HES HPU
        go_upto_region 10 with (first
          | ((with_reducible refine wpList_load49 ?_ HR.out H8M.out ?_); rfl)
          | (go_at_call 24; (with_reducible refine HPU.out.mono ?_); rintro e w4 ⟨u4, rfl, hu4, hb4⟩; have HU4 := hide hu4; have HK2 := hide (kept_trans HK1.out hb4); clear hu4 hb4; obtain ⟨gp, cp, e4, hpc, hpg, hpm⟩ := by_form HU4.out HES.out.1; subst e4))
        clear HR H8M HPU
        have HGP := hide (Nat.le_trans HK1.out.size hpg)
        have HPC := hide hpc
        clear hpg hpc HK1
        obtain ⟨np, hnp⟩ : ∃ x, zp.length = x := ⟨_, rfl⟩
        rw [hnp] at HU4 HES HPC ⊢
        have HNP := hide hnp
        clear hnp
        have np1 : 1 ≤ np := HES.out.1
        have np2 : np ≤ 50000 := HES.out.2.1
        have HW1 := hide fun w1 => within_any ia 0 ((np : Int) - 1) w1 (by omega) (by omega) (by omega)
        have b1 := withinI_bounds ia 0 ((np : Int) - 1) (by omega)
        generalize withinI ia 0 ((np : Int) - 1) = t1 at HW1 b1
        obtain ⟨K, hK⟩ := Int.eq_ofNat_of_zero_le b1.1
        subst hK
        have hKn : K < np := by omega
        have hKi : (K : Int) < (np : Int) := by omega
        clear b1
        go_upto_block 2 with (first
          | (go_at_call 28; (with_reducible refine (HW1.out _).mono ?_); rintro e w5 ⟨rfl, rfl⟩)
          | (go_at_call 28; (with_reducible refine (HW2.out _).mono ?_); rintro e w5 ⟨rfl, rfl⟩))
        clear HW1 HW2
        go_cut [13] (fun s13 wx => ∃ (A9 : Option Addr) (n9 c9 : Nat) (z9 : List Int), s13 = .slice A9 n9 c9 ∧ Hid (Bb wx A9 n9 c9 z9) ∧ Hid (Below W.heap.size W wx))
        case first =>
          obtain rfl | rfl | rfl : t2 = 0 ∨ t2 = 1 ∨ t2 = 2 := by omega
          · obtain ⟨q1, q2⟩ := by_cell HU4.out HNP.out hKn
            have HST := hide (by_put HU4.out HNP.out K bt)
            go_wp2
            go_meet
            exact ⟨_, _, _, zp.set K bt, rfl, hide ⟨by rw [List.length_set]; exact HNP.out, HST.out, octets_set HES.out.2.2 K HTO.out, (fun h => by cases h), HPC.out, by omega⟩, hide (HK2.out.setCell (p := ⟨gp, K, none⟩) HGP.out _)⟩
          · have hKc : (K : Int) ≤ (cp : Int) := by have := HPC.out; omega
            have HLX := hide (show Lies w4 (some ⟨gp, 0, none⟩) zp from Lies.of_own (base := wr.heap.size) (e := 5) (n := np) (c := cp) (by have h := HU4.out; unfold By at h; rw [HNP.out] at h; exact h))
            go_wp2
            go_meet
            exact ⟨_, _, _, zp.take K, rfl, hide ⟨by rw [List.length_take, HNP.out]; omega, HLX.out.take K, octets_take HES.out.2.2 K, (fun h => by cases h), by omega, by omega⟩, HK2⟩
          · have HU5 := hide (HU4.out.below (kept_alloc (kept_refl w4) (.cells #[.int .u8 bt] 5)))
            have HK5 := hide (kept_alloc HK2.out (.cells #[.int .u8 bt] 5))
            have HV5 := hide (by_one w4 bt)
            have HX5 : Hid (zp.length ≤ 100000) := hide (by rw [HNP.out]; omega)
            have HY5 : Hid ([bt].length ≤ 100000) := hide (by simp)
            have HS5 : Hid (wr.heap.size ≤ (w4.alloc (.cells #[.int .u8 bt] 5)).heap.size) := hide (Nat.le_trans (Nat.le_of_lt (HU4.out.blk gp rfl).2 |> fun h => Nat.le_trans (HU4.out.blk gp rfl).1 h) (kept_alloc (kept_refl w4) (.cells #[.int .u8 bt] 5)).size)
            have HW4 := hide (show W.heap.size ≤ wr.heap.size from HWR.out)
            go_wp2_with (first
              | ((with_reducible refine wpList_append_by ?_ (.tmp 69) (.tmp 71) ?_ ?_ HU5.out ?_ HV5.out HX5.out HY5.out HS5.out ?_); rfl; rfl; rfl; rfl; intro v9 w9 hu9 hb9 _; have HU9 := hide hu9; have HB9 := hide (HK5.out.trans (hb9.mono HW4.out)); clear hu9 hb9; obtain ⟨A9, c9, e9, hx1, hx2, hx3, hx4⟩ := HU9.out.form; subst e9; have HLX := hide (show (A9 = none → c9 = 0) ∧ (zp ++ [bt]).length ≤ c9 ∧ Lies w9 A9 (zp ++ [bt]) from ⟨hx1, hx2, hx4⟩); clear hx1 hx2 hx3 hx4))
            go_meet
            exact ⟨A9, _, c9, zp ++ [bt], rfl, hide ⟨by simp, HLX.out.2.2, octets_app HES.out.2.2 (fun z hz => by rw [List.mem_singleton.1 hz]; exact HTO.out), HLX.out.1, by have h := HLX.out.2.1; simpa using h, by have h := HNP.out; omega⟩, HB9⟩
        case rest =>
          obtain ⟨A9, n9, c9, z9, rfl, HB9, HK9⟩ := hcut
          obtain ⟨wB, hwB⟩ : ∃ x, x = wc := ⟨_, rfl⟩
          subst hwB
          clear HU4 HES HPC HNP HTO HGP HK2 HWR hKn hKi np1 np2 b2
          have hn5 := HN5.out
          have hnb : n' ≤ cb := HB0.out.le
          have s1 : (0 : Int) ≤ (n' : Int) := by omega
          have s2 : (n' : Int) ≤ (n' : Int) + 80 := by omega
          have s3 : (n' : Int) ≤ ((n' + 80 : Nat) : Int) := by omega
          go_upto_region 19 with (first
            | (go_at_call 29; (with_reducible refine (roomy_any Ab n' cb z' _ wB HB0.out.len (HB0.out.lies.below HK9.out) (by omega)).mono ?_); rintro e w1 ⟨rfl, hown, hb1⟩; have HL1 := hide (Lies.of_own hown); have HB1 := hide hb1; clear hown hb1))
          have HK1 := hide (kept_trans HK9.out HB1.out)
          have HF1 : Hid (Bb w1 (some ⟨wB.heap.size, 0, none⟩) n' (n' + 80) z') := hide ⟨HB0.out.len, front HL1.out, HB0.out.oct, (fun h => by cases h), by omega, by omega⟩
          have HP1 := hide (HB9.out.below HB1.out)
          clear HB1 HB9 HK9
          generalize wB.heap.size = gf at HF1 HL1 ⊢
          obtain ⟨D1, hD1⟩ : ∃ D, decS z' = D := ⟨_, rfl⟩
          obtain ⟨sx, fx⟩ := D1
          have HD1 := hide hD1
          obtain ⟨D2, hD2⟩ : ∃ D, decS z9 = D := ⟨_, rfl⟩
          obtain ⟨sy, fy⟩ := D2
          have HD2 := hide hD2
          clear hD1 hD2
          go_upto_region 20 with (first
            | (go_at_call 30; (with_reducible refine (get_is HD1.out HF1.out).mono ?_); rintro e v2 ⟨p2, M2, rfl, hn, hb⟩; have HN2 := hide hn; have HB2 := hide hb; have H82 := hide hn.eight; have H12 := hide hn.one; clear hn hb)
            | ((with_reducible refine wpList_store49n ?_ ?_ H12.out H82.out ?_); rfl; rfl))
          have kb := kept_trans HB2.out (kept_alloc (kept_refl v2) (.cells (stc p2 M2) 30))
          have HK2 := hide (kept_trans HK1.out kb)
          have HF2 := hide (HF1.out.below kb)
          have HL2 := hide (HL1.out.below kb)
          have HP2 := hide (HP1.out.below kb)
          have HR2_2 := hide (Row.new v2 30 (stc p2 M2))
          have HI2_2 := hide (HN2.out.below (kept_alloc (kept_refl v2) (.cells (stc p2 M2) 30))).isS
          clear kb HN2 HB2 H12 HK1 HF1 HL1 HP1
          generalize v2.alloc (.cells (stc p2 M2) 30) = w2 at HK2 HF2 HL2 HP2 HR2_2 HI2_2 ⊢
          generalize v2.heap.size = g2 at HR2_2 ⊢
          go_upto_region 21 with (first
            | (go_at_call 31; (with_reducible refine (rget_is HD1.out (HB0.out.below HK2.out)).mono ?_); rintro e v3 ⟨p3, M3, rfl, hn, hb⟩; have HN3 := hide hn; have HB3 := hide hb; have H83 := hide hn.eight; have H13 := hide hn.one; clear hn hb)
            | ((with_reducible refine wpList_store49n ?_ ?_ H13.out H83.out ?_); rfl; rfl))
          have kb := kept_trans HB3.out (kept_alloc (kept_refl v3) (.cells (stc p3 M3) 30))
          have HK3 := hide (kept_trans HK2.out kb)
          have HL3 := hide (HL2.out.below kb)
          have HP3 := hide (HP2.out.below kb)
          have HR2_3 := hide (HR2_2.out.below kb HR2_2.out.lt)
          have HI2_3 := hide (HI2_2.out.below kb)
          have HR3_3 := hide (Row.new v3 30 (stc p3 M3))
          have HI3_3 := hide (HN3.out.below (kept_alloc (kept_refl v3) (.cells (stc p3 M3) 30))).isS
          clear kb HN3 HB3 H13 HK2 HF2 HL2 HP2 HR2_2 HI2_2
          generalize v3.alloc (.cells (stc p3 M3) 30) = w3 at HK3 HL3 HP3 HR2_3 HI2_3 HR3_3 HI3_3 ⊢
          generalize v3.heap.size = g3 at HR3_3 ⊢
          go_upto_region 22 with (first
            | (go_at_call 30; (with_reducible refine (get_is HD2.out HP3.out).mono ?_); rintro e v4 ⟨p4, M4, rfl, hn, hb⟩; have HN4 := hide hn; have HB4 := hide hb; have H84 := hide hn.eight; have H14 := hide hn.one; clear hn hb)
            | ((with_reducible refine wpList_store49n ?_ ?_ H14.out H84.out ?_); rfl; rfl))
          have kb := kept_trans HB4.out (kept_alloc (kept_refl v4) (.cells (stc p4 M4) 30))
          have HK4 := hide (kept_trans HK3.out kb)
          have HL4 := hide (HL3.out.below kb)
          have HP4 := hide (HP3.out.below kb)
          have HR2_4 := hide (HR2_3.out.below kb HR2_3.out.lt)
          have HI2_4 := hide (HI2_3.out.below kb)
          have HR3_4 := hide (HR3_3.out.below kb HR3_3.out.lt)
          have HI3_4 := hide (HI3_3.out.below kb)
          have HR4_4 := hide (Row.new v4 30 (stc p4 M4))
          have HI4_4 := hide (HN4.out.below (kept_alloc (kept_refl v4) (.cells (stc p4 M4) 30))).isS
          clear kb HN4 HB4 H14 HK3 HL3 HP3 HR2_3 HR3_3 HI2_3 HI3_3
          generalize v4.alloc (.cells (stc p4 M4) 30) = w4 at HK4 HL4 HP4 HR2_4 HI2_4 HR3_4 HI3_4 HR4_4 HI4_4 ⊢
          generalize v4.heap.size = g4 at HR4_4 ⊢
          go_upto_region 23 with (first
            | (go_at_call 31; (with_reducible refine (rget_is HD2.out HP4.out).mono ?_); rintro e v5 ⟨p5, M5, rfl, hn, hb⟩; have HN5 := hide hn; have HB5 := hide hb; have H85 := hide hn.eight; have H15 := hide hn.one; clear hn hb)
            | ((with_reducible refine wpList_store49n ?_ ?_ H15.out H85.out ?_); rfl; rfl))
          have kb := kept_trans HB5.out (kept_alloc (kept_refl v5) (.cells (stc p5 M5) 30))
          have HK5 := hide (kept_trans HK4.out kb)
          have HL5 := hide (HL4.out.below kb)
          have HP5 := hide (HP4.out.below kb)
          have HR2_5 := hide (HR2_4.out.below kb HR2_4.out.lt)
          have HI2_5 := hide (HI2_4.out.below kb)
          have HR3_5 := hide (HR3_4.out.below kb HR3_4.out.lt)
          have HI3_5 := hide (HI3_4.out.below kb)
          have HR4_5 := hide (HR4_4.out.below kb HR4_4.out.lt)
          have HI4_5 := hide (HI4_4.out.below kb)
          have HR5_5 := hide (Row.new v5 30 (stc p5 M5))
          have HI5_5 := hide (HN5.out.below (kept_alloc (kept_refl v5) (.cells (stc p5 M5) 30))).isS
          clear kb HN5 HB5 H15 HK4 HL4 HP4 HR2_4 HR3_4 HR4_4 HI2_4 HI3_4 HI4_4
          generalize v5.alloc (.cells (stc p5 M5) 30) = w5 at HK5 HL5 HP5 HR2_5 HI2_5 HR3_5 HI3_5 HR4_5 HI4_5 HR5_5 HI5_5 ⊢
          generalize v5.heap.size = g5 at HR5_5 ⊢
          go_wp2_with (first
            | ((with_reducible refine wpList_load49g ?_ ?_ HR2_5.out H82.out ?_); rfl; rfl)
            | ((with_reducible refine wpList_load49g ?_ ?_ HR3_5.out H83.out ?_); rfl; rfl)
            | ((with_reducible refine wpList_load49g ?_ ?_ HR4_6.out H84.out ?_); rfl; rfl)
            | ((with_reducible refine wpList_load49g ?_ ?_ HR5_6.out H85.out ?_); rfl; rfl)
            | (go_at_call 18; (with_reducible refine (states_self HI2_5.out HI3_5.out).mono ?_); rintro e w6 ⟨rfl, hb⟩; have HK6 := hide (kept_trans HK5.out hb); have HL6 := hide (HL5.out.below hb); have HR4_6 := hide (HR4_5.out.below hb HR4_5.out.lt); have HR5_6 := hide (HR5_5.out.below hb HR5_5.out.lt); have HI4_6 := hide (HI4_5.out.below hb); have HI5_6 := hide (HI5_5.out.below hb); clear hb)
            | (go_at_call 18; (with_reducible refine (states_self HI4_6.out HI5_6.out).mono ?_); rintro e w7 ⟨rfl, hb⟩; have HK7 := hide (kept_trans HK6.out hb); have HL7 := hide (HL6.out.below hb); clear hb)
            | (go_at_call 32; (with_reducible refine (intact_any _ Ab (n' + 80) n' (n' + 80) cb _ z' 4 w7 (by rw [List.length_append, length_pad, HB0.out.len]) HB0.out.len HL7.out (HB0.out.lies.below HK7.out) (by omega) (by omega) (by omega) rfl).mono ?_); rintro e w8 ⟨rfl, q8, rfl⟩)
            | (go_at_call 3; (with_reducible refine (RUN.out _).mono ?_); rintro e w9 ⟨rfl, hb9⟩))
          go_ret
          exact ⟨rfl, kept_trans (kept_drewN HK7.out _) hb9⟩
set_option maxRecDepth 100000 in
theorem lifted (os : Os) (started : os.Started) (H : Type) (enc : TypeId × Value → H) :
    ReturnsInHanded {} Try.checked os 7 .any (Rows.stateBytesSpec.pre6 enc Try.prog Try.f7 Rows.stateBytesRow.domain false) (Rows.stateBytesSpec.post enc Try.prog Try.f7 false true false false) := by
  refine returnsInHanded_of_change_sized (C := Try.checked) own started (by kernel_rfl) Try.func7
    (ChangeSpec.witness6 (enc := enc) (C := Try.checked) false ⟨#[], #[.slice none 0 0, .slice none 0 0, .int .i64 0, .int .u8 0, .int .i64 0], []⟩ 8 (by kernel_rfl) (by kernel_rfl) (by kernel_rfl) (by kernel_rfl)) ?_
  intro W base args ds gs before hval0 hW _ hsz0 _
  have hval : ∀ (j : Nat) t v, Try.f7.params[j]? = some t → args[j]? = some v → Value.okWide Try.prog W .any base t v := hval0
  have hW' := hW
  obtain ⟨p, q, hA0, hV, rfl, _, _⟩ := hW
  have hA : DataW.TrodAll enc Try.prog W 0 (fun _ => true) true Try.f7.params.toList args.toList ds p := hA0
  have hsz : (DataW.weightsEach Try.prog (Try.f7.params.toList ++ Rows.stateBytesSpec.plain.varTypes Try.prog) (ds ++ gs)).all (· ≤ reachBytes) = true := hsz0
  rw [Try.params7] at hA hval hsz
  obtain ⟨v0, vs0, d0, ds0, p0, q0, hargs, rfl, rfl, h0, r0⟩ := trodAll_cons hA
  obtain ⟨v1, vs1, d1, ds1, p1, q1, rfl, rfl, rfl, h1, r1⟩ := trodAll_cons r0
  obtain ⟨v2, vs2, d2, ds2, p2, q2, rfl, rfl, rfl, h2, r2⟩ := trodAll_cons r1
  obtain ⟨v3, vs3, d3, ds3, p3, q3, rfl, rfl, rfl, h3, r3⟩ := trodAll_cons r2
  obtain ⟨v4, vs4, d4, ds4, p4, q4, rfl, rfl, rfl, h4, r4⟩ := trodAll_cons r3
  obtain ⟨rfl, rfl, rfl⟩ := trodAll_nil r4
  obtain rfl : args = #[v0, v1, v2, v3, v4] := by cases args; simp_all
  obtain ⟨rfl, rfl⟩ := trodVars_none hV
  have k0 := h0
  have lt0 : ∀ x ∈ p0, x.block < W.heap.size := by obtain ⟨m, hm⟩ := k0; exact DataW.trod_lt m _ _ _ hm
  obtain ⟨A0, n0, c0, rfl⟩ := okWide_slice Try.underlying49 (hval 0 49 v0 rfl rfl)
  obtain ⟨z0, s0⟩ := slice_in (j := 0) h0 hsz rfl rfl
  have k1 := h1
  have lt1 : ∀ x ∈ p1, x.block < W.heap.size := by obtain ⟨m, hm⟩ := k1; exact DataW.trod_lt m _ _ _ hm
  obtain ⟨A1, n1, c1, rfl⟩ := okWide_slice Try.underlying39 (hval 1 39 v1 rfl rfl)
  obtain ⟨z1, s1⟩ := cmds_in (j := 1) h1 hsz rfl rfl
  obtain ⟨a2, rfl, rfl, rfl, w2⟩ := open_int Try.underlying3 (hval 2 3 v2 rfl rfl) h2
  obtain ⟨a3, rfl, rfl, rfl, w3⟩ := open_int Try.underlying5 (hval 3 5 v3 rfl rfl) h3
  obtain ⟨a4, rfl, rfl, rfl, w4⟩ := open_int Try.underlying3 (hval 4 3 v4 rfl rfl) h4
  clear hA0 hval0
  refine (walk A0 n0 c0 z0 A1 n1 c1 z1 a2 a3 a4 W s0 s1 (bounds_i64 w2) (bounds_u8 w3) (bounds_i64 w4)).mono fun e W' ⟨he, bel⟩ => ?_
  subst he
  exact ⟨_, rfl, _, _, _, [], _, [], hW', trodAll_mk1 (shut_bool Try.underlying4 _), (trodAll_cons_mk (Below.trod laidOut (by kernel_rfl) (of_decide_eq_true (by kernel_rfl)) k0 bel lt0) (trodAll_cons_mk (Below.trod laidOut (by kernel_rfl) (of_decide_eq_true (by kernel_rfl)) k1 bel lt1) (trodAll_cons_mk (shut_int Try.underlying3 w2) (trodAll_cons_mk (shut_int Try.underlying5 w3) (trodAll_cons_mk (shut_int Try.underlying3 w4) trodAll_mk0))))), rfl, bel.frame _, fun h => by cases h⟩
theorem over : Rows.stateBytesRow.holds Try.pinned (OpenSpec.ofChange Rows.stateBytesSpec) :=
  OpenClaim.holds_of_wide 7 Try.f7 rfl rfl rfl rfl rfl rfl rfl ⟨rfl, rfl, rfl, rfl, rfl⟩ rfl rfl rfl rfl rfl (by kernel_rfl) Try.func7 (by kernel_rfl)
    (of_decide_eq_true (by kernel_rfl)) (by unfold Func.isWrapper; first | (rw [if_pos (by decide +kernel)]; kernel_rfl) | (rw [if_neg (by decide +kernel)]; exact ⟨rfl, rfl⟩))
    (fun os started H enc _ => lifted os started H enc)
theorem proved : Rows.StateBytesSaid := over
end Go.Proofs.Ytahfpncfkcfogaa.stateBytes
