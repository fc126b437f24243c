/- Proved: the law InstPlays returns true. Conditions: none beyond the row's own. -/
import Derived.Test.YtnbknhgfjjgcjaaFrame
import Derived.Test.YtnbknhgfjjgcjaaPst
import Derived.Test.YtnbknhgfjjgcjaaAsks
import Derived.Deep.DeepCutAuto
import Derived.Deep.RegionHeld3
import Derived.LoopTactic
import Derived.Deep.CutBlock
namespace Go.Proofs.Ytnbknhgfjjgcjaa.instPlays
open Go.ChangeShapes Go.WideShapes Go.ChangeAt Go.RowKit
set_option maxRecDepth 100000 in
set_option maxHeartbeats 8000000 in
theorem walk (A0 : Option Addr) (n0 c0 : Nat) (fs0 : List (Int × Int)) (A1 : Option Addr) (n1 c1 : Nat) (asks : List (Int × (Int × Int))) (W : World) (hf : InstsIn W A0 n0 c0 fs0) (ha : AsksIn W A1 n1 c1 asks) :
    Calls Try.prog 5 #[.slice A0 n0 c0, .slice A1 n1 c1] W fun e w' => e = .returned (.bool true) ∧ Below W.heap.size W w' := by
  have HF := hide hf
  have HA := hide ha
  clear hf ha
  have hmf : ∀ (fn : Fn) (first cap : Array Value) (w : World), (Instr.makeFunc fn first cap).run Try.prog w = .ok (.func fn first cap) w := fun _ _ _ _ => rfl
  go_enter Try.func5, Try.ntmps5
  go_upto_if 14 with (fail)
  go_cut [0] (fun s0 wx => ∃ (n : Nat) (fs : List (Int × Int)), s0 = .slice A0 n c0 ∧ fs.length = n ∧ n ≤ 30 ∧ Ins W A0 fs ∧ (∀ x, x ∈ fs → Ok x) ∧ wx = W)
  case first =>
    have l1 : (n0 : Int) ≤ (c0 : Int) := by have := HF.out.le; omega
    by_cases h30 : 30 < n0
    · have hb : decide ((30 : Int) < (n0 : Int)) = true := by simp; omega
      have h30c : (30 : Int) ≤ (c0 : Int) := by omega
      go_wp2
      go_meet
      refine ⟨30, fs0.take 30, rfl, ?_, Nat.le_refl _, HF.out.lies.take 30, fun x hx => HF.out.ok x (List.mem_of_mem_take hx), rfl⟩
      rw [List.length_take, HF.out.len]; omega
    · have hb : decide ((30 : Int) < (n0 : Int)) = false := by simp; omega
      go_wp2
      go_meet
      exact ⟨n0, fs0, rfl, HF.out.len, by omega, HF.out.lies, HF.out.ok, rfl⟩
  case rest =>
    obtain ⟨n, fs, rfl, hlen, hn, hins, hok, hwc⟩ := hcut
    have hcw := hwc.symm
    subst hcw
    clear HF
    have LEN := hide hlen
    have LE := hide hn
    have OKF := hide hok
    have INF := hide hins
    clear hlen hn hok hins
    go_upto_region 6 with (go_at_call 8; refine (new_any A0 n c0 fs _ LEN.out INF.out OKF.out (by have := LE.out; omega)).mono ?_; rintro e w1 ⟨g, d, rfl, hS, hg, hd, hb⟩)
    have st := hide (show St W (w1.alloc (.cells #[.slice none 0 0] 29)) g d w1.heap.size (mk fs) [] from St.first hS hg hd hb)
    clear hS hg hd hb
    generalize hq : w1.heap.size = q at st
    go_upto_block 0 with fail
    generalize (World.alloc w1 _) = w2 at st ⊢
    clear hq
    go_wp2_with fail
    go_loopw [8] (fun i wr => ∃ k : Nat, k ≤ n ∧ i = .int .i64 k ∧ Hid (St W wr g d q (mk fs) (mk (fs.take k)))) (fun i _ => n - (intOf i).toNat)
    case atStart => exact ⟨0, by omega, rfl, st⟩
    case round =>
      clear st
      obtain ⟨k, hk, rfl, ST⟩ := hrel
      by_cases hlt : k < n
      · obtain ⟨⟨r, s⟩, hx⟩ : ∃ x, fs[k]? = some x := ⟨_, List.getElem?_eq_getElem (by have := LEN.out; omega)⟩
        obtain ⟨b0, o0, hA0, hbl, p0, p1⟩ := INF.out.at_ hx
        have f0 : wr.cell? ⟨b0, o0 + k * 2, none⟩ = some (.int .i64 r) := (ST.out.low.cell (p := ⟨b0, o0 + k * 2, none⟩) hbl).trans p0
        have f1 : wr.cell? ⟨b0, o0 + k * 2 + 1, none⟩ = some (.int .i64 s) := (ST.out.low.cell (p := ⟨b0, o0 + k * 2 + 1, none⟩) hbl).trans p1
        have lt0 : (0 : Int) ≤ (k : Int) := by omega
        have lt1 : (k : Int) < (n : Int) := by omega
        have kw : wrap64 ((k : Int) + 1) = (k : Int) + 1 := by have := LE.out; unfold wrap64; omega
        have hm := hide (mk_take fs hx)
        have hl9 := hide (show (mk (fs.take k)).length ≤ 1000 by have := length_mk (fs.take k); rw [List.length_take] at this; have := LE.out; omega)
        subst hA0
        clear p0 p1 hx hbl
        go_wp2_with (go_at_call 23; (with_reducible refine (want_some q d (mk (fs.take k)) r s _ ST.out.wt (rise_mk _) hl9.out ST.out.set.lt.2).mono ?_); rintro e w3 ⟨tb, rfl, hw, hg⟩; (have SN := hide (ST.out.want hw hg)); clear hw hg)
        go_roundw
        case rel => exact ⟨k + 1, by omega, by go_num, by rw [hm.out]; exact SN⟩
        case measure => exact meas k n hlt kw
      · obtain rfl : k = n := Nat.le_antisymm hk (Nat.le_of_not_lt hlt)
        obtain ⟨L0, st0, hL0⟩ := st_all ST.out LEN.out LE.out
        have SA := hide st0
        have HLA := hide hL0
        clear ST st0 hL0 LEN LE OKF INF hlt hk
        go_upto_block 2 with fail
        go_wp2_with fail
        go_loopw [9] (fun i wr => ∃ (k : Nat) (L : List (Int × Int)), k ≤ n1 ∧ k ≤ 60 ∧ i = .int .i64 k ∧ Hid (St W wr g d q L L) ∧ Hid (L.length ≤ 30 + k)) (fun i _ => 60 - (intOf i).toNat)
        case atStart => exact ⟨0, L0, Nat.zero_le _, Nat.zero_le _, rfl, SA, HLA⟩
        case round =>
          clear SA HLA
          obtain ⟨m, L, hm1, hm60, rfl, ST, HL⟩ := hrel
          by_cases h1 : m < n1
          · by_cases h2 : m < 60
            · obtain ⟨b2, o2, kd, r, s, hA1, ak⟩ := HA.out.get h1
              have AK := hide ak
              clear ak
              subst hA1
              go_upto_block 4 with fail
              go_cut [10] from 34 to 132 (fun s10 wx => ∃ j : Nat, s10 = .int .i64 j ∧ Fd L (r, s) j ∧ St W wx g d q L L)
              case first =>
                go_wp2_with fail
                go_loopw [10] (fun i wr => ∃ j : Nat, j ≤ L.length ∧ i = .int .i64 j ∧ Hid (∀ i, i < j → L[i]? ≠ some (r, s)) ∧ Hid (St W wr g d q L L)) (fun i _ => L.length - (intOf i).toNat)
                case atStart => exact ⟨0, Nat.zero_le _, rfl, hide (fun i hi => absurd hi (Nat.not_lt_zero i)), ST⟩
                case round =>
                  clear ST
                  obtain ⟨j, hj, rfl, HJ, ST⟩ := hrel
                  go_upto_region 16 with (fail)
                  by_cases hlt : j < L.length
                  · obtain ⟨b3, o3, c3, y1, y2, hy, f0, f1, f2⟩ := ST.out.wt.item hlt
                    obtain ⟨i0, i1, i2⟩ := ints_of hlt
                    obtain ⟨i3, i4, _⟩ := ints_of h1
                    have a1 := (AK.out.low ST.out.low).c1
                    have a2 := (AK.out.low ST.out.low).c2
                    have heq := neq_inst y1 y2 r s
                    have HY := hide hy
                    clear hy
                    obtain ⟨t, ht⟩ := bool_is (sameB y1 y2 r s)
                    rw [ht] at heq
                    have HT := hide ht
                    clear ht
                    have kw := wrap_in HL.out hm60 hlt
                    go_quiet (fail)
                    cases t
                    · go_wp2
                      go_roundw
                      case rel => exact ⟨j + 1, hlt, by go_num, hide (fd_next HY.out HT.out HJ.out), hide (ST.out.drewN _)⟩
                      case measure => exact meas j L.length hlt kw
                    · go_wp2
                      go_meet
                      exact ⟨j, rfl, fd_here hlt HY.out HT.out HJ.out, ST.out.drewN _⟩
                  · obtain ⟨A3, c3, f0⟩ := ST.out.wt.get
                    have i0 := ints_not hlt
                    go_quiet (fail)
                    go_wp2
                    go_meet
                    exact ⟨j, rfl, fd_none hj hlt HJ.out, ST.out.drewN _⟩
              case rest =>
                obtain ⟨j, rfl, fd, st⟩ := hcut
                clear ST
                have FD := hide fd
                have ST := hide st
                clear fd st
                obtain ⟨A3, c3, f0⟩ := ST.out.wt.get
                have ft := FD.out.tell
                obtain ⟨t, ht⟩ := bool_is (decide ((r, s) ∈ L))
                have fn := FD.out.tells
                rw [ht] at ft fn
                have HT := hide ht
                have a0 := (AK.out.low ST.out.low).c0
                obtain ⟨i3, i4, _⟩ := ints_of h1
                clear ht
                go_upto_block 6 with fail
                go_cut [11] from 34 to 132 (fun s11 wx => ∃ L' : List (Int × Int), L'.length ≤ 30 + (m + 1) ∧ St W wx g d q L' L')
                case first =>
                  clear f0 a0
                  have RI := hide ST.out.set.rise
                  by_cases k1 : kd = 1
                  · have e1 : (kd == 1) = true := by simp [k1]
                    go_upto_region 21 with (fail)
                    have QQ := hide ST.out.drew
                    have a1 := (AK.out.low QQ.out.low).c1
                    have HN := hide (le_thousand HL.out hm60)
                    clear ST a1
                    go_region_held3 (fun w' => w'.cell? ⟨b2, o2 + m * 3 + 1, none⟩ = some (.int .i64 r) ∧ w'.cell? ⟨b2, o2 + m * 3 + 2, none⟩ = some (.int .i64 s)) ((with_reducible exact (AK.out.low QQ.out.low).two))
                      (first
                        | (go_at_call 13; (with_reducible refine (add_t HT.out HN.out AK.out.ok QQ.out.set).mono ?_); rintro e w' ⟨rfl, hS, hg⟩; (have QN := hide (QQ.out.turn hS hg)); clear QQ hS hg; (have QQ := QN); clear QN)
                        | (go_at_call 23; (with_reducible refine (want_t HT.out HN.out RI.out QQ.out.set.lt.2 QQ.out.wt).mono ?_); rintro e w' ⟨rfl, hS, hg⟩; (have QN := hide (QQ.out.want hS hg)); clear QQ hS hg; (have QQ := QN); clear QN))
                    go_wp2_with fail
                    go_meet
                    exact ⟨ins (r, s) L, len_ins (r, s) RI.out HL.out, QQ.out⟩
                  · have e1 : (kd == 1) = false := by simp [k1]
                    by_cases k2 : kd = 2
                    · have e2 : (kd == 2) = true := by simp [k2]
                      obtain ⟨a1, a2⟩ := (AK.out.low ST.out.low).two
                      go_upto_region 26 with (go_at_call 14; (with_reducible refine (drop_t HT.out AK.out.ok ST.out.set).mono ?_); rintro e w' ⟨rfl, hS, hg⟩; (have QQ := hide (ST.out.turn hS hg)); clear hS hg)
                      cases t
                      · go_wp2_with fail
                        go_meet
                        exact ⟨L, len_same HL.out, st_del HT.out QQ.out⟩
                      · clear a1 a2 ST
                        go_upto_region 27 with (fail)
                        have QD := hide QQ.out.drew
                        obtain ⟨A4, c4, hR, hI, hnil, hcap⟩ := QD.out.box
                        have hjl : j < L.length := of_decide_eq_true fn
                        obtain ⟨j0, j1, j2, j3⟩ := bounds_of hjl hcap
                        have kw := wrap_in HL.out hm60 hjl
                        have kwi := wrap_k HL.out hm60 hjl
                        have kt : ((j : Int) + 1).toNat = j + 1 := rfl
                        have HJ := hide hjl
                        refine wp_region_noPanic ?_
                        refine wp_region_T 10 (fun w' => w'.cell? ⟨q, 0, none⟩ = some (.slice A4 L.length c4)) (by kernel_rfl) ?_
                        generalize World.drew w' = wd at QD hR hI ⊢
                        have RW := hide hR; have IW := hide hI; have HNIL := hide hnil; have HCAP := hide hcap; have HN := hide (le_thousand HL.out hm60)
                        clear hR hI hnil hcap QQ hjl
                        refine anyT_take (i := 1) (v := ?ov1) (by simp only [List.getElem?_toArray, List.getElem?_cons_succ, List.getElem?_cons_zero]; exact rfl) (by kernel_rfl) (by kernel_rfl) (fun _ _ _ h => h) (by kernel_rfl) (by kernel_rfl) (Or.inl ⟨by rfl, ?oy1⟩) (by with_reducible exact row_one RW.out) ?or1
                        case oy1 => (intro w hSw; (try dsimp only at hSw); go_simp; try with_reducible rfl)
                        try simp only [Act.put, List.setIfInBounds_toArray, List.set_cons_zero, List.set_cons_succ]
                        refine anyT_take (i := 2) (v := ?ov2) (by simp only [List.getElem?_toArray, List.getElem?_cons_succ, List.getElem?_cons_zero]; exact rfl) (by kernel_rfl) (by kernel_rfl) (fun _ _ _ h => h) (by kernel_rfl) (by kernel_rfl) (Or.inl ⟨by rfl, ?oy2⟩) (by with_reducible exact row_one RW.out) ?or2
                        case oy2 => (intro w hSw; (try dsimp only at hSw); go_simp; try with_reducible rfl)
                        try simp only [Act.put, List.setIfInBounds_toArray, List.set_cons_zero, List.set_cons_succ]
                        refine anyT_take (i := 3) (v := ?ov3) (by simp only [List.getElem?_toArray, List.getElem?_cons_succ, List.getElem?_cons_zero]; exact rfl) (by kernel_rfl) (by kernel_rfl) (fun _ _ _ h => h) (by kernel_rfl) (by kernel_rfl) (Or.inl ⟨by rfl, ?oy3⟩) (by with_reducible exact row_one RW.out) ?or3
                        case oy3 => (intro w hSw; (try dsimp only at hSw); go_simp; try with_reducible rfl)
                        try simp only [Act.put, List.setIfInBounds_toArray, List.set_cons_zero, List.set_cons_succ]
                        refine anyT_take (i := 5) (v := ?ov5) (by simp only [List.getElem?_toArray, List.getElem?_cons_succ, List.getElem?_cons_zero]; exact rfl) (by kernel_rfl) (by kernel_rfl) (fun _ _ _ h => h) (by kernel_rfl) (by kernel_rfl) (Or.inl ⟨by rfl, ?oy5⟩) (by with_reducible exact row_one RW.out) ?or5
                        case oy5 => (intro w hSw; (try dsimp only at hSw); go_simp; try with_reducible rfl)
                        try simp only [Act.put, List.setIfInBounds_toArray, List.set_cons_zero, List.set_cons_succ]
                        refine anyT_take (i := 6) (v := ?ov6) (by simp only [List.getElem?_toArray, List.getElem?_cons_succ, List.getElem?_cons_zero]; exact rfl) (by kernel_rfl) (by kernel_rfl) (fun _ _ _ h => h) (by kernel_rfl) (by kernel_rfl) (Or.inl ⟨by rfl, ?oy6⟩) (by with_reducible exact row_one RW.out) ?or6
                        case oy6 => (intro w hSw; (try dsimp only at hSw); go_simp; try with_reducible rfl)
                        try simp only [Act.put, List.setIfInBounds_toArray, List.set_cons_zero, List.set_cons_succ]
                        refine anyT_take (i := 7) (v := ?ov7) (by simp only [List.getElem?_toArray, List.getElem?_cons_succ, List.getElem?_cons_zero]; exact rfl) (by kernel_rfl) (by kernel_rfl) (fun _ _ _ h => h) (by kernel_rfl) (by kernel_rfl) (Or.inl ⟨by rfl, ?oy7⟩) (by with_reducible exact row_one RW.out) ?or7
                        case oy7 => (intro w hSw; (try dsimp only at hSw); go_simp; try with_reducible rfl)
                        try simp only [Act.put, List.setIfInBounds_toArray, List.set_cons_zero, List.set_cons_succ]
                        refine anyT_take (i := 8) (v := ?ov8) (by simp only [List.getElem?_toArray, List.getElem?_cons_succ, List.getElem?_cons_zero]; exact rfl) (by kernel_rfl) (by kernel_rfl) (fun _ _ _ h => h) (by kernel_rfl) (by kernel_rfl) (Or.inl ⟨by rfl, ?oy8⟩) (by with_reducible exact row_one RW.out) ?or8
                        case oy8 => (intro w hSw; (try dsimp only at hSw); go_simp; try with_reducible rfl)
                        try simp only [Act.put, List.setIfInBounds_toArray, List.set_cons_zero, List.set_cons_succ]
                        have HB := hide (Below.refl wd.heap.size wd)
                        refine anyT_one (i := 0) (by kernel_rfl) (by simp only [List.getElem?_toArray, List.getElem?_cons_zero]; exact rfl) (fun K hK => ?_)
                        go_simp
                        have HBN := hide (HB.out.alloc HB.out.size (.cells #[] 25))
                        have HGN := hide (Gw.start HB.out)
                        refine hK.out _ _ (fun _ => row_one (RW.out.below HBN.out RW.out.lt)) ?_
                        clear hK K HB
                        try simp only [Act.put, List.setIfInBounds_toArray, List.set_cons_zero, List.set_cons_succ]
                        generalize World.alloc wd _ = wa at HBN HGN ⊢
                        have HB := HBN
                        clear HBN
                        have HG := HGN
                        clear HGN
                        refine anyT_one (i := 4) (by kernel_rfl) (by simp only [List.getElem?_toArray, List.getElem?_cons_succ, List.getElem?_cons_zero]; exact rfl) (fun K hK => ?_)
                        refine step_append_gw (by rfl) (.tmp 100) (.tmp 103) (by rfl) (by rfl) HG.out _ j _ (L.take j) (by rfl) (len_take HJ.out) HNIL.out ((IW.out.below HB.out).take j) j (Nat.zero_add j) (small_one HJ.out HN.out) (fun g4 cap4 wb hG hg hcap => ?_)
                        have HBN := hide hG.low
                        have HGN := hide hG
                        refine hK.out _ _ (fun _ => row_one (RW.out.below HBN.out RW.out.lt)) ?_
                        clear hK K HB HG hG hg hcap
                        try simp only [Act.put, List.setIfInBounds_toArray, List.set_cons_zero, List.set_cons_succ]
                        have HB := HBN
                        clear HBN
                        have HG := HGN
                        clear HGN
                        refine anyT_one (i := 9) (by kernel_rfl) (by simp only [List.getElem?_toArray, List.getElem?_cons_succ, List.getElem?_cons_zero]; exact rfl) (fun K hK => ?_)
                        refine step_append_gw (by rfl) (.tmp 104) (.tmp 108) (by rfl) (by rfl) HG.out (partP A4 c4 (j + 1)) (L.length - (j + 1)) _ (L.drop (j + 1)) (by rfl) List.length_drop (partP_none HNIL.out) ((IW.out.below HB.out).rest HCAP.out (j + 1)) (j + (L.length - (j + 1))) rfl (small_two HJ.out HN.out) (fun g9 cap9 wf hG hg hcap => ?_)
                        have HBN := hide hG.low
                        have HGN := hide hG
                        have HC := hide hcap
                        refine hK.out _ _ (fun _ => row_one (RW.out.below HBN.out RW.out.lt)) ?_
                        clear hK K HB HG hG hg hcap
                        try simp only [Act.put, List.setIfInBounds_toArray, List.set_cons_zero, List.set_cons_succ]
                        have HB := HBN
                        clear HBN
                        have HG := HGN
                        clear HGN
                        refine anyT_one (i := 10) (by kernel_rfl) (by simp only [List.getElem?_toArray, List.getElem?_cons_succ, List.getElem?_cons_zero]; exact rfl) (fun K hK => ?_)
                        have f0 := (RW.out.below HB.out RW.out.lt).free 0
                        have f1 := row_one (RW.out.below HB.out RW.out.lt)
                        have fin := hide (HG.out.store q d RW.out rfl QD.out.wt.qd QD.out.set.lt.2 (del_cut RI.out FD.out HT.out) HC.out)
                        go_simp
                        refine hK.out _ _ (fun e => absurd rfl e) ?_
                        clear hK K f0 f1
                        refine anyT_done (by kernel_rfl) ?_
                        refine NoPanic.normal ?_
                        have QE := hide (QD.out.want fin.out.1 fin.out.2)
                        clear fin QD
                        go_wp2_with fail
                        all_goals go_meet
                        all_goals exact ⟨del (r, s) L, len_del (r, s) HL.out, QE.out⟩
                    · have e2 : (kd == 2) = false := by simp [k2]
                      by_cases k3 : kd = 3
                      · have e3 : (kd == 3) = true := by simp [k3]
                        obtain ⟨a1, a2⟩ := (AK.out.low ST.out.low).two
                        go_wp2_with (go_at_call 18; (with_reducible refine (has_t HT.out AK.out.ok ST.out.set).mono ?_); rintro e w' ⟨rfl, hb⟩; (have QQ := hide (ST.out.below hb)); clear hb)
                        go_meet
                        exact ⟨L, len_same HL.out, QQ.out⟩
                      · have e3 : (kd == 3) = false := by simp [k3]
                        go_wp2_with fail
                        go_meet
                        exact ⟨L, len_same HL.out, ST.out⟩
                case rest =>
                  obtain ⟨L', hL', st⟩ := hcut
                  clear ST HT FD ft fn i3 i4 HL
                  have HL := hide hL'
                  have HN := hide (le_thousand' hL' h2)
                  have kw := wrap_small m (Nat.le_trans hm60 (by omega))
                  have QQ := hide st.drew
                  obtain ⟨A5, c5, bo⟩ := QQ.out.bo
                  have BX := hide bo
                  have b0 : wc.cell? ⟨q, 0, none⟩ = some (.slice A5 L'.length c5) := bo.cell
                  clear st hL' bo b0
                  go_upto_region 31 with (fail)
                  go_region_held3 (fun w' => w'.cell? ⟨q, 0, none⟩ = some (.slice A5 L'.length c5)) ((with_reducible exact BX.out.cell))
                    (first
                      | (go_at_call 10; (with_reducible refine (len_b QQ.out.set).mono ?_); rintro e w' ⟨rfl, hb⟩; (have QN := hide (QQ.out.below hb)); (have BN := hide (BX.out.step hb)); clear QQ BX hb; (have QQ := QN); (have BX := BN); clear QN BN)
                      | (go_at_call 12; (with_reducible refine (list_b HN.out QQ.out.set).mono ?_); rintro e w' ⟨A6, c6, rfl, hi, hb⟩; (have QN := hide (QQ.out.below hb)); (have BN := hide (BX.out.step hb)); (have IN := hide hi); clear QQ BX hb hi; (have QQ := QN); (have BX := BN); clear QN BN)
                      | (go_at_call 11; (with_reducible refine (same_b HN.out IN.out BX.out.ins).mono ?_); rintro e w' ⟨rfl, hb⟩; (have QN := hide (QQ.out.below hb)); (have BN := hide (BX.out.step hb)); clear QQ BX hb IN; (have QQ := QN); (have BX := BN); clear QN BN))
                  go_wp2_with fail
                  go_roundw
                  case rel => exact ⟨m + 1, L', h1, h2, by go_num, QQ, HL⟩
                  case measure => exact meas_plain m 60 h2
            · have e60 := ints_sixty h2
              go_wp2_with (go_at_call 3; (with_reducible refine (runs_any _).mono ?_); rintro e w' ⟨rfl, hb⟩; (have QQ := hide (ST.out.below hb)); clear hb)
              go_ret
              exact ⟨rfl, QQ.out.low⟩
          · have e1 := ints_not h1
            go_wp2_with (go_at_call 3; (with_reducible refine (runs_any _).mono ?_); rintro e w' ⟨rfl, hb⟩; (have QQ := hide (ST.out.below hb)); clear hb)
            go_ret
            exact ⟨rfl, QQ.out.low⟩
set_option maxRecDepth 100000 in
theorem lifted (os : Os) (started : os.Started) (H : Type) (enc : TypeId × Value → H) :
    ReturnsInHanded {} Try.checked os 5 .any (Rows.instPlaysSpec.pre6 enc Try.prog Try.f5 Rows.instPlaysRow.domain false) (Rows.instPlaysSpec.post enc Try.prog Try.f5 false true false false) := by
  refine returnsInHanded_of_change (C := Try.checked) own started (by kernel_rfl) Try.func5
    (ChangeSpec.witness6 (enc := enc) (C := Try.checked) false ⟨#[], #[.slice none 0 0, .slice none 0 0], []⟩ 8 (by kernel_rfl) (by kernel_rfl) (by kernel_rfl) (by kernel_rfl)) ?_
  intro W base args ds gs before hval0 hW _ _
  have hval : ∀ (j : Nat) t v, Try.f5.params[j]? = some t → args[j]? = some v → Value.okWide Try.prog W .any base t v := hval0
  have hW' := hW
  obtain ⟨p, q, hA0, hV, rfl, _, _⟩ := hW
  have hA : DataW.TrodAll enc Try.prog W 0 (fun _ => true) true Try.f5.params.toList args.toList ds p := hA0
  rw [Try.params5] at hA hval
  obtain ⟨v0, vs0, d0, ds0, p0, q0, hargs, rfl, rfl, h0, r0⟩ := trodAll_cons hA
  obtain ⟨v1, vs1, d1, ds1, p1, q1, rfl, rfl, rfl, h1, r1⟩ := trodAll_cons r0
  obtain ⟨rfl, rfl, rfl⟩ := trodAll_nil r1
  obtain rfl : args = #[v0, v1] := by cases args; simp_all
  obtain ⟨rfl, rfl⟩ := trodVars_none hV
  have k0 := h0
  have lt0 : ∀ x ∈ p0, x.block < W.heap.size := by obtain ⟨m, hm⟩ := k0; exact DataW.trod_lt m _ _ _ hm
  obtain ⟨A0, n0, c0, rfl⟩ := okWide_slice Try.underlying29 (hval 0 29 v0 rfl rfl)
  obtain ⟨z0, s0⟩ := insts_in h0
  have k1 := h1
  have lt1 : ∀ x ∈ p1, x.block < W.heap.size := by obtain ⟨m, hm⟩ := k1; exact DataW.trod_lt m _ _ _ hm
  obtain ⟨A1, n1, c1, rfl⟩ := okWide_slice Try.underlying40 (hval 1 40 v1 rfl rfl)
  obtain ⟨z1, s1⟩ := asks_in h1
  clear hA0 hval0
  refine (walk A0 n0 c0 z0 A1 n1 c1 z1 W s0 s1).mono fun e W' ⟨he, bel⟩ => ?_
  subst he
  exact ⟨_, rfl, _, _, _, [], _, [], hW', trodAll_mk1 (shut_bool Try.underlying4 _), (trodAll_cons_mk (Below.trod laidOut (by kernel_rfl) (of_decide_eq_true (by kernel_rfl)) k0 bel lt0) (trodAll_cons_mk (Below.trod laidOut (by kernel_rfl) (of_decide_eq_true (by kernel_rfl)) k1 bel lt1) trodAll_mk0)), rfl, bel.frame _, fun h => by cases h⟩
theorem over : Rows.instPlaysRow.holds Try.pinned (OpenSpec.ofChange Rows.instPlaysSpec) :=
  OpenClaim.holds_of_wide 5 Try.f5 rfl rfl rfl rfl rfl rfl rfl ⟨rfl, rfl, rfl, rfl, rfl⟩ rfl rfl rfl rfl rfl (by kernel_rfl) Try.func5 (by kernel_rfl)
    (of_decide_eq_true (by kernel_rfl)) (by unfold Func.isWrapper; first | (rw [if_pos (by decide +kernel)]; kernel_rfl) | (rw [if_neg (by decide +kernel)]; exact ⟨rfl, rfl⟩))
    (fun os started H enc _ => lifted os started H enc)
theorem proved : Rows.InstPlaysSaid := over
end Go.Proofs.Ytnbknhgfjjgcjaa.instPlays
