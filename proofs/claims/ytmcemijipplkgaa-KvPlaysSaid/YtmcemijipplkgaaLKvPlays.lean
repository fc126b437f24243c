/- Proved: the law KvPlays returns true. Conditions: none beyond the row's own. -/
import Derived.Test.YtmcemijipplkgaaFrame
import Derived.Test.YtmcemijipplkgaaOp
import Derived.Test.YtmcemijipplkgaaSp
import Derived.Lib.MinMax
import Derived.Deep.DeepCutAuto
import Derived.Deep.RegionHeld3
import Derived.Deep.CutBlock
namespace Go.Proofs.Ytmcemijipplkgaa.kvPlays
open Go.ChangeShapes Go.WideShapes Go.ChangeAt Go.RowKit
set_option maxRecDepth 100000 in
set_option maxHeartbeats 16000000 in
theorem walk (A : Option Addr) (n c : Nat) (l : List Ka) (W : World) (h : KasIn W A n c l) :
    Calls Try.prog 5 #[.slice A n c] W fun e w' => e = .returned (.bool true) ∧ Below W.heap.size W w' := by
  have RUN := hide (fun w => runs_any w)
  have hn := h.len
  have hnc := h.le
  have hcr := h.room
  subst hn
  have HA := hide h.lies
  have HOK := hide h.ok
  clear h
  go_enter Try.func5, Try.ntmps5
  go_wp2
  go_loopw [3, 4, 5, 6, 7] (fun s3 s4 s5 s6 i wr => ∃ (k : Nat) (vm vk vv vt : Value) (M ml : List Pr), k ≤ l.length ∧ k ≤ 60 ∧ i = .int .i64 k ∧ vm = s3 ∧ vk = s4 ∧ vv = s5 ∧ vt = s6 ∧ Hid (Pl W wr vm vk vv vt M ml k)) (fun _ _ _ _ i _ => l.length - (intOf i).toNat)
  case atStart => exact ⟨0, _, _, _, _, [], [], by omega, by omega, rfl, rfl, rfl, rfl, rfl, Pl.start W⟩
  case round =>
    as_aux_lemma =>
    obtain ⟨k, vm, vk, vv, vt, M, ml, hk, hk60, rfl, rfl, rfl, rfl, rfl, S⟩ := hrel
    by_cases hlt : k < l.length ∧ k < 60
    · obtain ⟨hlt, hlt60⟩ := hlt
      have hlt60' : decide ((k : Int) < 60) = true := decide_eq_true (by omega)
      obtain ⟨x, hx⟩ : ∃ x, l[k]? = some x := ⟨_, List.getElem?_eq_getElem hlt⟩
      obtain ⟨b, o, rfl, hbs, c0, c1, c2, c3, c4⟩ := Els.ka (HA.out.below S.out.old) hx
      have HX := hide (HOK.out x (List.mem_of_getElem? hx))
      clear hx
      obtain ⟨N, Am, Ak, Av, At, cm, ck, cv, ct, rfl, rfl, rfl, rfl, hN, hNM, hN32, hkl, hkm, hvl, hvm, htl, htm⟩ := S.out.slices
      have HN := hide hN
      have HNM := hide hNM
      clear hN hNM
      go_upto_region 8 with (fail)
      have R0 := hide (Row.new wr 49 #[.int .i64 x.d, .string x.k, .string x.v, .string x.lo, .string x.hi])
      have S2 := hide (S.out.below (kept_alloc (kept_refl wr) (.cells #[.int .i64 x.d, .string x.k, .string x.v, .string x.lo, .string x.hi] 49)))
      generalize wr.alloc (.cells #[.int .i64 x.d, .string x.k, .string x.v, .string x.lo, .string x.hi] 49) = w2 at R0 S2 ⊢
      generalize wr.heap.size = g8 at R0 ⊢
      clear S c0 c1 c2 c3 c4 hbs
      have r1 : w2.cell? ⟨g8, 1, none⟩ = some (.string x.k) := R0.out.cell 1
      have r2 : w2.cell? ⟨g8, 2, none⟩ = some (.string x.v) := R0.out.cell 2
      go_cut [49] from 21 to 251 (fun s49 wx => ∃ t : Bool, s49 = .bool t ∧ w2 = wx ∧ Hid (t = false → nilB x.k = false ∧ x.k.size ≤ 16 ∧ x.v.size ≤ 64))
      case first =>
        as_aux_lemma =>
          cases h1 : nilB x.k
          · by_cases h2 : x.k.size ≤ 16
            · have h2' : decide ((16 : Int) < (x.k.size : Int)) = false := decide_eq_false (by omega)
              by_cases h3 : x.v.size ≤ 64
              · have h3' : decide ((64 : Int) < (x.v.size : Int)) = false := decide_eq_false (by omega)
                have HF := hide (⟨h1, h2, h3⟩ : nilB x.k = false ∧ x.k.size ≤ 16 ∧ x.v.size ≤ 64)
                unfold nilB at h1
                go_wp2_with fail
                go_meet
                exact ⟨_, rfl, rfl, fun _ => HF.out⟩
              · have h3' : decide ((64 : Int) < (x.v.size : Int)) = true := decide_eq_true (by omega)
                unfold nilB at h1
                go_wp2_with fail
                go_meet
                exact ⟨_, rfl, rfl, fun h => by cases h⟩
            · have h2' : decide ((16 : Int) < (x.k.size : Int)) = true := decide_eq_true (by omega)
              unfold nilB at h1
              go_wp2_with fail
              go_meet
              exact ⟨_, rfl, rfl, fun h => by cases h⟩
          · unfold nilB at h1
            go_wp2_with fail
            go_meet
            exact ⟨_, rfl, rfl, fun h => by cases h⟩
      case rest =>
        as_aux_lemma =>
        obtain ⟨t, rfl, rfl, HF⟩ := hcut
        clear r1 r2
        cases t
        · as_aux_lemma =>
          replace HF := hide (HF.out rfl)
          have r1 : w2.cell? ⟨g8, 1, none⟩ = some (.string x.k) := R0.out.cell 1
          go_wp2
          go_loopw [9, 10] (fun s9 i wx => ∃ (j q : Nat) (a : Int), j ≤ N ∧ i = .int .i64 j ∧ s9 = .int .i64 a ∧ Hid (AtK ml x.k a j) ∧ wx = w2.drewN q) (fun _ i _ => N - (intOf i).toNat)
          case atStart => exact ⟨0, 0, -1, by omega, rfl, rfl, .inl ⟨rfl, fun j p hj => absurd hj (by omega)⟩, rfl⟩
          case round =>
            as_aux_lemma =>
            obtain ⟨j, q, a, hj, rfl, rfl, HT, rfl⟩ := hrel
            by_cases hjl : j < N
            · as_aux_lemma =>
              obtain ⟨p, hp⟩ : ∃ p, ml[j]? = some p := ⟨_, List.getElem?_eq_getElem (by rw [HN.out]; exact hjl)⟩
              obtain ⟨gk, rfl, -, hgk, hck, -⟩ := S2.out.k.cell (ks_all ml) (j := j) (u := .string p.k) (by unfold ksV; rw [List.getElem?_map, hp]; rfl)
              have HP := hide hp
              clear hp
              cases he : eqB p.k x.k
              · as_aux_lemma =>
                have HT2 := hide (HT.out.next_no HP.out he)
                unfold eqB at he
                go_wp2
                go_quiet (fail)
                go_wp2
                go_roundw
                case rel => exact ⟨j + 1, _, a, by omega, by go_num, rfl, HT2, rfl⟩
                case measure => simp [intOf]; omega
              · as_aux_lemma =>
                have HT2 := hide (AtK.next_yes (n := j) HP.out he)
                unfold eqB at he
                go_wp2
                go_quiet (fail)
                go_wp2
                go_roundw
                case rel => exact ⟨j + 1, _, (j : Int), by omega, by go_num, rfl, HT2, rfl⟩
                case measure => simp [intOf]; omega
            · as_aux_lemma =>
              obtain rfl : j = N := by omega
              have kq := kept_drewN (kept_refl w2) q
              have R3 := hide (R0.out.below kq R0.out.lt)
              have S3 := hide (S2.out.below kq)
              clear r1 kq R0 S2
              generalize w2.drewN q = w3 at R3 S3 ⊢
              have r0 : w3.cell? ⟨g8, 0, none⟩ = some (.int .i64 x.d) := R3.out.cell 0
              obtain ⟨kd, hkd⟩ : ∃ kd, x.d = kd := ⟨_, rfl⟩
              rw [hkd] at r0
              have HAT := hide (S3.out.at_ (by rw [HN.out]; exact HT.out))
              clear HT hkd
              go_upto_block 4 with (fail)
              have r1 : w3.cell? ⟨g8, 1, none⟩ = some (.string x.k) := R3.out.cell 1
              have r2 : w3.cell? ⟨g8, 2, none⟩ = some (.string x.v) := R3.out.cell 2
              have r3 : w3.cell? ⟨g8, 3, none⟩ = some (.string x.lo) := R3.out.cell 3
              have r4 : w3.cell? ⟨g8, 4, none⟩ = some (.string x.hi) := R3.out.cell 4
              go_cut [3, 4, 5, 6, 11, 12, 13, 14, 15, 16, 17, 18, 19, 20] from 21 to 251 (fun s3 s4 s5 s6 _ _ _ _ _ _ _ _ _ _ wx => ∃ vm vk vv vt M' ml', vm = s3 ∧ vk = s4 ∧ vv = s5 ∧ vt = s6 ∧ Hid (Pl W wx vm vk vv vt M' ml' (k + 1)))
              case first =>
                as_aux_lemma =>
                by_cases k1 : kd = 1
                · subst k1
                  rcases HAT.out with ⟨rfl, hb⟩ | ⟨jj, p, hjN, rfl, hjp, hk, hb, hg⟩
                  · by_cases hfull : 32 ≤ M.length
                    · as_aux_lemma =>
                      have CP := hide (S3.out.put_full (value := x.v) hb hfull)
                      have h32 : decide ((32 : Int) ≤ (j : Int)) = true := decide_eq_true (by have := HNM.out; omega)
                      clear hb hfull
                      go_wp2_with (go_at_call 9; (with_reducible refine CP.out.mono ?_); rintro e w5 ⟨v5, rfl, ho5, hb5⟩; have S5 := hide (S3.out.below hb5); obtain ⟨A5, c5, rfl, -⟩ := ho5.slice (n := 0) rfl; clear ho5 hb5)
                      go_roundw
                      case rel => exact ⟨k + 1, _, _, _, _, M, ml, by omega, by omega, by go_num, rfl, rfl, rfl, rfl, hide S5.out.later⟩
                      case measure => simp [intOf]; omega
                    · as_aux_lemma =>
                      have CP := hide (S3.out.put_room (key := x.k) (value := x.v) (.inr (by omega)))
                      have h32 : decide ((32 : Int) ≤ (j : Int)) = false := decide_eq_false (by have := HNM.out; omega)
                      have HB := hide (⟨hb, hfull⟩ : isB M x.k = false ∧ ¬ 32 ≤ M.length)
                      clear hb hfull
                      go_upto_region 25 with (go_at_call 9; (with_reducible refine CP.out.mono ?_); rintro e w5 ⟨v5, rfl, ho5, hb5⟩; have S5 := hide (S3.out.below hb5); have O5 := hide (ho5.mono S3.out.old.size); have kb := hide hb5; clear ho5 hb5)
                      have q1 : w5.cell? ⟨g8, 1, none⟩ = some (.string x.k) := (R3.out.below kb.out R3.out.lt).cell 1
                      have q2 : w5.cell? ⟨g8, 2, none⟩ = some (.string x.v) := (R3.out.below kb.out R3.out.lt).cell 2
                      have R5 := hide (R3.out.below kb.out R3.out.lt)
                      have HS := hide (show w5.drew.cell? ⟨g8, 1, none⟩ = some (.string x.k) ∧ w5.drew.cell? ⟨g8, 2, none⟩ = some (.string x.v) from ⟨q1, q2⟩)
                      have S5 := hide (show Pl W w5.drew _ _ _ _ M ml k from S5.out.below (kept_refl w5).drew)
                      have O5 := hide (show Mine W.heap.size w5.drew v5 _ from O5.out.below (kept_refl w5).drew)
                      have R5 := hide (show Row w5.drew g8 _ _ from R5.out.drew)
                      have KB := hide (show Below W.heap.size W w5.drew from S5.out.old)
                      clear r0 r1 r2 r3 r4 kb CP S3 R3 q1 q2
                      refine wp_region_noPanic ?_
                      refine wp_region_T 15 (fun w' => w'.cell? ⟨g8, 1, none⟩ = some (.string x.k) ∧ w'.cell? ⟨g8, 2, none⟩ = some (.string x.v)) (by kernel_rfl) ?_
                      generalize World.drew _ = wd at HS S5 O5 R5 KB ⊢
                      refine anyT_take (i := 0) (v := ?ov0) (by simp only [List.getElem?_toArray, List.getElem?_cons_zero]; exact rfl) (by kernel_rfl) (by kernel_rfl) (fun _ _ _ h => h) (by kernel_rfl) (by kernel_rfl) (Or.inl ⟨by rfl, ?oy0⟩) (by with_reducible exact HS.out) ?or0
                      case oy0 => (intro w hSw; (try dsimp only at hSw); go_simp; try with_reducible rfl)
                      try simp only [Act.put, List.setIfInBounds_toArray, List.set_cons_zero, List.set_cons_succ]
                      refine anyT_take (i := 1) (v := ?ov1) (by simp only [List.getElem?_toArray, List.getElem?_cons_succ, List.getElem?_cons_zero]; exact rfl) (by kernel_rfl) (by kernel_rfl) (fun _ _ _ h => h) (by kernel_rfl) (by kernel_rfl) (Or.inl ⟨by rfl, ?oy1⟩) (by with_reducible exact HS.out) ?or1
                      case oy1 => (intro w hSw; (try dsimp only at hSw); go_simp; try with_reducible rfl)
                      try simp only [Act.put, List.setIfInBounds_toArray, List.set_cons_zero, List.set_cons_succ]
                      refine anyT_take (i := 2) (v := ?ov2) (by simp only [List.getElem?_toArray, List.getElem?_cons_succ, List.getElem?_cons_zero]; exact rfl) (by kernel_rfl) (by kernel_rfl) (fun _ _ _ h => h) (by kernel_rfl) (by kernel_rfl) (Or.inl ⟨by rfl, ?oy2⟩) (by with_reducible exact HS.out) ?or2
                      case oy2 => (intro w hSw; (try dsimp only at hSw); go_simp; try with_reducible rfl)
                      try simp only [Act.put, List.setIfInBounds_toArray, List.set_cons_zero, List.set_cons_succ]
                      refine anyT_take (i := 5) (v := ?ov5) (by simp only [List.getElem?_toArray, List.getElem?_cons_succ, List.getElem?_cons_zero]; exact rfl) (by kernel_rfl) (by kernel_rfl) (fun _ _ _ h => h) (by kernel_rfl) (by kernel_rfl) (Or.inl ⟨by rfl, ?oy5⟩) (by with_reducible exact HS.out) ?or5
                      case oy5 => (intro w hSw; (try dsimp only at hSw); go_simp; try with_reducible rfl)
                      try simp only [Act.put, List.setIfInBounds_toArray, List.set_cons_zero, List.set_cons_succ]
                      refine anyT_take (i := 6) (v := ?ov6) (by simp only [List.getElem?_toArray, List.getElem?_cons_succ, List.getElem?_cons_zero]; exact rfl) (by kernel_rfl) (by kernel_rfl) (fun _ _ _ h => h) (by kernel_rfl) (by kernel_rfl) (Or.inl ⟨by rfl, ?oy6⟩) (by with_reducible exact HS.out) ?or6
                      case oy6 => (intro w hSw; (try dsimp only at hSw); go_simp; try with_reducible rfl)
                      try simp only [Act.put, List.setIfInBounds_toArray, List.set_cons_zero, List.set_cons_succ]
                      refine anyT_take (i := 7) (v := ?ov7) (by simp only [List.getElem?_toArray, List.getElem?_cons_succ, List.getElem?_cons_zero]; exact rfl) (by kernel_rfl) (by kernel_rfl) (fun _ _ _ h => h) (by kernel_rfl) (by kernel_rfl) (Or.inl ⟨by rfl, ?oy7⟩) (by with_reducible exact HS.out) ?or7
                      case oy7 => (intro w hSw; (try dsimp only at hSw); go_simp; try with_reducible rfl)
                      try simp only [Act.put, List.setIfInBounds_toArray, List.set_cons_zero, List.set_cons_succ]
                      refine anyT_take (i := 10) (v := ?ov10) (by simp only [List.getElem?_toArray, List.getElem?_cons_succ, List.getElem?_cons_zero]; exact rfl) (by kernel_rfl) (by kernel_rfl) (fun _ _ _ h => h) (by kernel_rfl) (by kernel_rfl) (Or.inl ⟨by rfl, ?oy10⟩) (by with_reducible exact HS.out) ?or10
                      case oy10 => (intro w hSw; (try dsimp only at hSw); go_simp; try with_reducible rfl)
                      try simp only [Act.put, List.setIfInBounds_toArray, List.set_cons_zero, List.set_cons_succ]
                      change anyT _ _ _ _ _ 15 (1 + 8) _ _ _
                      have h1 : Ap (.slice Ak j ck) (.slice Av j cv) := S5.out.kv
                      have h2 : Ap (.slice Ak j ck) (.slice At j ct) := ap_types S5.out.k S5.out.t (by decide)
                      have h3 : Ap (.slice Av j cv) (.slice At j ct) := ap_types S5.out.v S5.out.t (by decide)
                      have lk : (ksV ml).length + 1 ≤ 1000 := by unfold ksV; rw [List.length_map, HN.out]; omega
                      have lv : (vsV ml).length + 1 ≤ 1000 := by unfold vsV; rw [List.length_map, HN.out]; omega
                      have lt : (tsV ml).length + 1 ≤ 1000 := by unfold tsV; rw [List.length_map, HN.out]; omega
                      have f1 : some g8 ≠ (Value.slice Ak j ck).ownBlock := row_off S5.out.k R5.out (by decide)
                      have f2 : some g8 ≠ (Value.slice Av j cv).ownBlock := row_off S5.out.v R5.out (by decide)
                      have f3 : some g8 ≠ (Value.slice At j ct).ownBlock := row_off S5.out.t R5.out (by decide)
                      refine chains4_go (c1 := ⟨99, 100, 9, 1, ksV ml, [.string x.k], .slice Ak j ck⟩) (c2 := ⟨104, 105, 9, 1, vsV ml, [.string x.v], .slice Av j cv⟩) (c3 := ⟨107, 108, 3, 1, tsV ml, [.int .i64 1], .slice At j ct⟩) (base := W.heap.size)
                        (ou1 := .tmp 98) (os1 := .tmp 96) (ou2 := .tmp 103) (os2 := .tmp 101) (ou3 := .const (.int .i64 1)) (os3 := .tmp 106) (b1 := 3) (a1 := 4) (b2 := 8) (a2 := 9) (b3 := 11) (a3 := 12) (e1 := 13) (e2 := 14) (x1 := 4) (x2 := 5)
                        (op2_of el_str rfl (lit_str x.k) (by simp only [List.getElem?_toArray, List.getElem?_cons_succ, List.getElem?_cons_zero]; exact rfl) rfl rfl rfl (by simp only [List.getElem?_toArray, List.getElem?_cons_succ, List.getElem?_cons_zero]; exact rfl) rfl rfl rfl lk) (op2_of el_str rfl (lit_str x.v) (by simp only [List.getElem?_toArray, List.getElem?_cons_succ, List.getElem?_cons_zero]; exact rfl) rfl rfl rfl (by simp only [List.getElem?_toArray, List.getElem?_cons_succ, List.getElem?_cons_zero]; exact rfl) rfl rfl rfl lv) (op2_of el_int rfl (lit_int 1) (by simp only [List.getElem?_toArray, List.getElem?_cons_succ, List.getElem?_cons_zero]; exact rfl) rfl rfl rfl (by simp only [List.getElem?_toArray, List.getElem?_cons_succ, List.getElem?_cons_zero]; exact rfl) rfl rfl rfl lt)
                        (op_assign (by simp only [List.getElem?_toArray, List.getElem?_cons_succ, List.getElem?_cons_zero]; exact rfl) rfl rfl rfl) (op_assign (by simp only [List.getElem?_toArray, List.getElem?_cons_succ, List.getElem?_cons_zero]; exact rfl) rfl rfl rfl)
                        (by kernel_rfl) (by decide) (show [99, 100, 104, 105, 107, 108, 4, 5].Nodup by decide) (by simp) rfl rfl rfl rfl rfl rfl (show 99 < _ from Nat.le_of_ble_eq_true (by kernel_rfl)) (show 104 < _ from Nat.le_of_ble_eq_true (by kernel_rfl)) (show 107 < _ from Nat.le_of_ble_eq_true (by kernel_rfl)) (show 100 < _ from Nat.le_of_ble_eq_true (by kernel_rfl)) (show 105 < _ from Nat.le_of_ble_eq_true (by kernel_rfl)) S5.out.k S5.out.v S5.out.t h1 h2 h3 S5.out.old.size
                        (fun w hk => ⟨(hk.row R5.out f1 f2 f3).cell 1, (hk.row R5.out f1 f2 f3).cell 2⟩) (fun p1 y1 p2 y2 p3 y3 wz hr1 hr2 hr3 hp1 hp2 hp3 hkp => ?_)
                      have FIN := hide (S5.out.put3 HB.out.1 HB.out.2 HF.out O5.out hr1 hr2 hr3 hp1 hkp)
                      have HZ := hide (show wz.cell? ⟨g8, 1, none⟩ = some (.string x.k) ∧ wz.cell? ⟨g8, 2, none⟩ = some (.string x.v) from ⟨(hkp.row R5.out f1 f2 f3).cell 1, (hkp.row R5.out f1 f2 f3).cell 2⟩)
                      clear hr1 hr2 hr3 hp1 hp2 hp3 hkp h1 h2 h3 f1 f2 f3 lk lv lt HS S5 O5 R5 KB
                      try simp only [Act.put, List.setIfInBounds_toArray, List.set_cons_zero, List.set_cons_succ]
                      refine anyT_one (i := 15) (by kernel_rfl) (by simp only [List.getElem?_toArray, List.getElem?_cons_succ, List.getElem?_cons_zero]; exact rfl) (fun K hK => ?_)
                      go_simp
                      refine hK.out _ _ (fun e => absurd rfl e) ?_
                      clear hK K
                      refine anyT_done (by kernel_rfl) ?_
                      refine NoPanic.normal ?_
                      try simp only [Act.put, List.setIfInBounds_toArray, List.set_cons_zero, List.set_cons_succ]
                      go_wp2_with fail
                      go_meet
                      exact ⟨_, _, _, _, _, _, rfl, rfl, rfl, rfl, FIN⟩
                  · as_aux_lemma =>
                    have CP := hide (S3.out.put_room (key := x.k) (value := x.v) (.inl hb))
                    have hjN2 : jj < j := by rw [← HN.out]; exact hjN
                    have hja : decide ((jj : Int) < 0) = false := decide_eq_false (by omega)
                    have HJ := hide (⟨hjp, hb, hg, hk, hjN⟩ : ml[jj]? = some p ∧ isB M x.k = true ∧ getP M x.k = p ∧ p.k = x.k ∧ jj < ml.length)
                    clear hb hg hk hjN hjp
                    go_upto_region 26 with (go_at_call 9; (with_reducible refine CP.out.mono ?_); rintro e w5 ⟨v5, rfl, ho5, hb5⟩; have S5 := hide (S3.out.below hb5); have O5 := hide (ho5.mono S3.out.old.size); have kb := hide hb5; clear ho5 hb5)
                    have q2 : w5.cell? ⟨g8, 2, none⟩ = some (.string x.v) := (R3.out.below kb.out R3.out.lt).cell 2
                    obtain ⟨gv, rfl, -, -, v0, v0f⟩ := S5.out.v.cell (vs_all ml) (j := jj) (u := .string p.v) (by unfold vsV; rw [List.getElem?_map, HJ.out.1]; rfl)
                    obtain ⟨gt, rfl, -, -, u0, u0f⟩ := S5.out.t.cell (ts_all ml) (j := jj) (u := .int .i64 p.n) (by unfold tsV; rw [List.getElem?_map, HJ.out.1]; rfl)
                    have hp1 := S5.out.num HJ.out.1
                    have hgg : gt ≠ gv := fun e => ap_types S5.out.v S5.out.t (by decide) gv rfl (by rw [e]; rfl)
                    have ST := hide (S5.out.store O5.out HJ.out.2.2.2.2 (.string x.v) (.int .i64 (p.n + 1)))
                    have FIN := hide (S5.out.putOld hk60 HJ.out.2.1 HF.out HJ.out.1 HJ.out.2.2.1 HJ.out.2.2.2.1 ST.out.1 ST.out.2.1 ST.out.2.2.1 ST.out.2.2.2.1 S5.out.kv ST.out.2.2.2.2)
                    obtain ⟨pn, hpn⟩ : ∃ pn, p.n = pn := ⟨_, rfl⟩
                    rw [hpn] at u0 hp1 FIN
                    have hpw : IntKind.i64.wrap (pn + 1) = pn + 1 := by rw [IntKind.wrap_i64]; omega
                    clear r0 r1 r2 r3 r4 ST O5 CP hpn
                    go_wp2_with fail
                    go_meet
                    exact ⟨_, _, _, _, _, _, rfl, rfl, rfl, rfl, FIN⟩
                · by_cases k2 : kd = 2
                  · subst k2
                    rcases HAT.out with ⟨rfl, hb⟩ | ⟨jj, p, hjN, rfl, hjp, hk, hb, hg⟩
                    · as_aux_lemma =>
                      have CD := hide (S3.out.delNo hb)
                      clear hb
                      go_wp2_with (go_at_call 10; (with_reducible refine CD.out.mono ?_); rintro e w5 ⟨v5, rfl, ho5, hb5⟩; have S5 := hide (S3.out.same hb5 ho5); clear ho5 hb5)
                      go_meet
                      exact ⟨_, _, _, _, M, ml, rfl, rfl, rfl, rfl, S5⟩
                    · as_aux_lemma =>
                      have CD := hide (S3.out.delYes hb)
                      have hjN2 : jj < j := by rw [← HN.out]; exact hjN
                      have hja : decide ((0 : Int) ≤ (jj : Int)) = true := decide_eq_true (by omega)
                      have HJ := hide (⟨hjp, hb, hg⟩ : ml[jj]? = some p ∧ isB M x.k = true ∧ getP M x.k = p)
                      obtain ⟨j1, hj1⟩ : ∃ j1 : Nat, j1 = jj + 1 := ⟨_, rfl⟩
                      have hjw : IntKind.i64.wrap ((jj : Int) + 1) = (j1 : Int) := by rw [IntKind.wrap_i64]; omega
                      have HJ1 := hide hj1
                      have hj1N : j1 ≤ j := by omega
                      have hj1k : j1 ≤ ck := by omega
                      have hj1v : j1 ≤ cv := by omega
                      have hj1t : j1 ≤ ct := by omega
                      have hjk : jj ≤ ck := by omega
                      have hjv : jj ≤ cv := by omega
                      have hjt : jj ≤ ct := by omega
                      have hpv : ∀ (A : Option Addr) (c : Nat), (if c = j1 then A else Option.map (fun x => x.add j1) A) = partV 1 A c j1 := fun A c => by unfold partV; simp only [Nat.mul_one]
                      clear hb hg hk hjN hjp hj1
                      go_upto_region 34 with (go_at_call 10; (with_reducible refine CD.out.mono ?_); rintro e w5 ⟨v5, rfl, ho5, hb5⟩; have O5 := hide ho5; have S5 := hide (S3.out.below hb5); have B5 := hide hb5; clear ho5 hb5)
                      go_upto_region 34 with (fail)
                      have OW := hide (Rw.made (base := w5.heap.size) (e := 9) (w := w5.drew) (Nat.le_refl _))
                      have B0 := hide (kept_alloc (kept_refl w5).drew (.cells #[] 9))
                      have LI := hide (S5.out.k.lies (ks_all ml))
                      go_region_held3 (fun _ => True) (go_keep)
                        (first
                          | (refine step_append_rw el_str rfl (.tmp 136) (.tmp 139) rfl rfl OW.out Ak jj ck rfl (ks_all (ml.take jj)) (by unfold ksV; rw [List.length_map, List.length_take, HN.out]; omega) LI.out.2 (by have h := (LI.out.1.below B0.out).take jj; unfold ksV at h ⊢; rw [List.map_take]; exact h) (by simp; omega) B0.out.size ?_; intro vx wx ho hb; have OX := hide (show Rw w5.heap.size 9 1 wx vx (ksV (ml.take jj)) from ho); have BX := hide (B0.out.grown hb B0.out.size (fun k hk => (OW.out.lt k hk).1)); clear ho hb)
                          | (refine step_append_rw el_str rfl (.tmp 140) (.tmp 144) rfl rfl OX.out (partV 1 Ak ck j1) (j - j1) (ck - j1) rfl (ks_all (ml.drop j1)) (by unfold ksV; rw [List.length_map, List.length_drop, HN.out]) (fun h => partV_none LI.out.2 h) (by have h := (LI.out.1.below BX.out).rest (c := ck) (by unfold ksV; rw [List.length_map, HN.out]; omega) j1; unfold ksV at h ⊢; rw [List.map_drop]; exact h) (by unfold ksV; rw [List.length_map, List.length_take]; omega) BX.out.size ?_; intro v7 w7 ho hb; have RK := hide (show Rw w5.heap.size 9 1 w7 v7 (ksV (ml.take jj ++ ml.drop j1)) by unfold ksV; rw [List.map_append]; exact ho); have BK := hide (BX.out.grown hb BX.out.size (fun k hk => (OX.out.lt k hk).1)); clear ho hb))
                      clear OW B0 LI OX BX
                      have S7 := hide (S5.out.below BK.out)
                      go_upto_region 35 with (fail)
                      have OW := hide (Rw.made (base := w7.heap.size) (e := 9) (w := w7.drew) (Nat.le_refl _))
                      have B0 := hide (kept_alloc (kept_refl w7).drew (.cells #[] 9))
                      have LI := hide (S7.out.v.lies (vs_all ml))
                      go_region_held3 (fun _ => True) (go_keep)
                        (first
                          | (refine step_append_rw el_str rfl (.tmp 146) (.tmp 149) rfl rfl OW.out Av jj cv rfl (vs_all (ml.take jj)) (by unfold vsV; rw [List.length_map, List.length_take, HN.out]; omega) LI.out.2 (by have h := (LI.out.1.below B0.out).take jj; unfold vsV at h ⊢; rw [List.map_take]; exact h) (by simp; omega) B0.out.size ?_; intro vx wx ho hb; have OX := hide (show Rw w7.heap.size 9 1 wx vx (vsV (ml.take jj)) from ho); have BX := hide (B0.out.grown hb B0.out.size (fun k hk => (OW.out.lt k hk).1)); clear ho hb)
                          | (refine step_append_rw el_str rfl (.tmp 150) (.tmp 154) rfl rfl OX.out (partV 1 Av cv j1) (j - j1) (cv - j1) rfl (vs_all (ml.drop j1)) (by unfold vsV; rw [List.length_map, List.length_drop, HN.out]) (fun h => partV_none LI.out.2 h) (by have h := (LI.out.1.below BX.out).rest (c := cv) (by unfold vsV; rw [List.length_map, HN.out]; omega) j1; unfold vsV at h ⊢; rw [List.map_drop]; exact h) (by unfold vsV; rw [List.length_map, List.length_take]; omega) BX.out.size ?_; intro v9 w9 ho hb; have RV := hide (show Rw w7.heap.size 9 1 w9 v9 (vsV (ml.take jj ++ ml.drop j1)) by unfold vsV; rw [List.map_append]; exact ho); have BV := hide (BX.out.grown hb BX.out.size (fun k hk => (OX.out.lt k hk).1)); clear ho hb))
                      clear OW B0 LI OX BX
                      have S9 := hide (S7.out.below BV.out)
                      go_upto_region 36 with (fail)
                      have OW := hide (Rw.made (base := w9.heap.size) (e := 3) (w := w9.drew) (Nat.le_refl _))
                      have B0 := hide (kept_alloc (kept_refl w9).drew (.cells #[] 3))
                      have LI := hide (S9.out.t.lies (ts_all ml))
                      go_region_held3 (fun _ => True) (go_keep)
                        (first
                          | (refine step_append_rw el_int rfl (.tmp 156) (.tmp 159) rfl rfl OW.out At jj ct rfl (ts_all (ml.take jj)) (by unfold tsV; rw [List.length_map, List.length_take, HN.out]; omega) LI.out.2 (by have h := (LI.out.1.below B0.out).take jj; unfold tsV at h ⊢; rw [List.map_take]; exact h) (by simp; omega) B0.out.size ?_; intro vx wx ho hb; have OX := hide (show Rw w9.heap.size 3 1 wx vx (tsV (ml.take jj)) from ho); have BX := hide (B0.out.grown hb B0.out.size (fun k hk => (OW.out.lt k hk).1)); clear ho hb)
                          | (refine step_append_rw el_int rfl (.tmp 160) (.tmp 164) rfl rfl OX.out (partV 1 At ct j1) (j - j1) (ct - j1) rfl (ts_all (ml.drop j1)) (by unfold tsV; rw [List.length_map, List.length_drop, HN.out]) (fun h => partV_none LI.out.2 h) (by have h := (LI.out.1.below BX.out).rest (c := ct) (by unfold tsV; rw [List.length_map, HN.out]; omega) j1; unfold tsV at h ⊢; rw [List.map_drop]; exact h) (by unfold tsV; rw [List.length_map, List.length_take]; omega) BX.out.size ?_; intro v11 w11 ho hb; have RT := hide (show Rw w9.heap.size 3 1 w11 v11 (tsV (ml.take jj ++ ml.drop j1)) by unfold tsV; rw [List.map_append]; exact ho); have BT := hide (BX.out.grown hb BX.out.size (fun k hk => (OX.out.lt k hk).1)); clear ho hb))
                      clear OW B0 LI OX BX
                      have hle5 := S5.out.old.size
                      have hle7 := S7.out.old.size
                      have hle9 := S9.out.old.size
                      have FIN := hide (S3.out.del (w' := w11) (vm' := v5) (vk' := v7) (vv' := v9) (vt' := v11) HJ.out.2.1 HJ.out.1 HJ.out.2.2 ((((O5.out.mono S3.out.old.size).below BK.out).below BV.out).below BT.out) (by rw [← HJ1.out]; exact ((RK.out.below BV.out).below BT.out).mono hle5) (by rw [← HJ1.out]; exact (RV.out.below BT.out).mono hle7) (by rw [← HJ1.out]; exact RT.out.mono hle9) (ap_later RK.out RV.out) (S9.out.below BT.out).old)
                      go_wp2_with fail
                      go_meet
                      exact ⟨_, _, _, _, _, _, rfl, rfl, rfl, rfl, FIN⟩
                  · by_cases k3 : kd = 3
                    · subst k3
                      rcases HAT.out with ⟨rfl, hb⟩ | ⟨jj, p, hjN, rfl, hjp, hk, hb, hg⟩
                      · as_aux_lemma =>
                        have CG := hide (S3.out.get_none hb)
                        clear hb
                        go_upto_region 39 with (go_at_call 11; (with_reducible refine CG.out.mono ?_); rintro e w5 ⟨rfl, hb5⟩; have S5 := hide ((S3.out.below hb5).below (kept_alloc (kept_refl w5) (.cells #[.string zeroP.k, .string zeroP.v, .int .i64 zeroP.n] 29))); clear hb5)
                        generalize w5.alloc (.cells #[.string zeroP.k, .string zeroP.v, .int .i64 zeroP.n] 29) = w6 at S5 ⊢
                        go_quiet (fail)
                        go_wp2_with fail
                        go_meet
                        exact ⟨_, _, _, _, M, ml, rfl, rfl, rfl, rfl, hide (S5.out.below (kept_drewN (kept_refl w6) _)).later⟩
                      · as_aux_lemma =>
                        have CG := hide (S3.out.get_some hb hg hk)
                        have hjN2 : jj < j := by rw [← HN.out]; exact hjN
                        have hja : decide ((0 : Int) ≤ (jj : Int)) = true := decide_eq_true (by omega)
                        have HJ := hide hjp
                        clear hb hg hk hjN hjp
                        go_upto_region 39 with (go_at_call 11; (with_reducible refine CG.out.mono ?_); rintro e w5 ⟨rfl, hb5⟩; have kb := hide (kept_trans hb5 (kept_alloc (kept_refl w5) (.cells #[.string x.k, .string p.v, .int .i64 p.n] 29))); clear hb5)
                        have X := Pbox.new w5 ⟨x.k, p.v, p.n⟩
                        simp only at X
                        have S5 := hide (S3.out.below kb.out)
                        have q1 := (R3.out.below kb.out R3.out.lt).cell 1
                        generalize w5.alloc (.cells #[.string x.k, .string p.v, .int .i64 p.n] 29) = w6 at X S5 q1 ⊢
                        generalize w5.heap.size = g15 at X ⊢
                        replace q1 : w6.cell? ⟨g8, 1, none⟩ = some (.string x.k) := q1
                        obtain ⟨z0, z1, z2⟩ := X.three
                        obtain ⟨gv, rfl, -, -, v0, -⟩ := S5.out.v.cell (vs_all ml) (j := jj) (u := .string p.v) (by unfold vsV; rw [List.getElem?_map, HJ.out]; rfl)
                        obtain ⟨gt, rfl, -, -, u0, -⟩ := S5.out.t.cell (ts_all ml) (j := jj) (u := .int .i64 p.n) (by unfold tsV; rw [List.getElem?_map, HJ.out]; rfl)
                        clear X kb r0 r1 r2 r3 r4
                        go_quiet (fail)
                        go_wp2_with fail
                        go_meet
                        exact ⟨_, _, _, _, M, ml, rfl, rfl, rfl, rfl, hide (S5.out.below (kept_drewN (kept_refl w6) _)).later⟩
                    · by_cases k4 : kd = 4
                      · subst k4
                        clear r1 r2
                        have CR := hide (fun w h => range_any (.slice Am j cm) M x.lo x.hi w h (by have := S3.out.few; omega))
                        go_wp2_with fail
                        go_loopw [17, 18] (fun s17 i wx => ∃ jj nn : Nat, jj ≤ j ∧ i = .int .i64 jj ∧ s17 = .int .i64 nn ∧ Hid ((inP (ml.take jj) x.lo x.hi).length = nn) ∧ nn ≤ jj ∧ Hid (Below w3.heap.size w3 wx)) (fun _ i _ => j - (intOf i).toNat)
                        case atStart => exact ⟨0, 0, by omega, rfl, rfl, rfl, by omega, Below.refl _ _⟩
                        case round =>
                          obtain ⟨jj, nn, hjj, rfl, rfl, HC, hnj, BX⟩ := hrel
                          by_cases hlt3 : jj < j
                          · as_aux_lemma =>
                            obtain ⟨p, hp⟩ : ∃ p, ml[jj]? = some p := ⟨_, List.getElem?_eq_getElem (by rw [HN.out]; exact hlt3)⟩
                            have S4 := S3.out.below BX.out
                            obtain ⟨gk, rfl, -, hgk, c0, -⟩ := S4.k.cell (ks_all ml) (j := jj) (u := .string p.k) (by unfold ksV; rw [List.getElem?_map, hp]; rfl)
                            have R4 := R3.out.below BX.out R3.out.lt
                            have s0 : wr.cell? ⟨g8, 3, none⟩ = some (.string x.lo) := R4.cell 3
                            have s1 : wr.cell? ⟨g8, 4, none⟩ = some (.string x.hi) := R4.cell 4
                            have lg := R4.lt
                            have HP := hide hp
                            clear hp S4 R4 r3 r4
                            have HH := hide (fun w => has_any x.lo x.hi p.k w)
                            go_upto_region 46 with (fail)
                            have st : Below wr.heap.size wr wr := kept_refl wr
                            cases ht : hasB x.lo x.hi p.k
                            · rw [ht] at HH
                              have N4 : Hid ((inP (ml.take (jj + 1)) x.lo x.hi).length = nn) := hide (by rw [inP_no HP.out ht]; exact HC.out)
                              clear ht
                              refine wp_region_sp (fun w' => Below wr.heap.size wr w') (by kernel_rfl) (by kernel_rfl) st.drew ?_
                              generalize hS : (fun w' => Below wr.heap.size wr w') = S
                              have l0 : ∀ s : Sp S, s.w.cell? ⟨g8, 3, none⟩ = some (.string x.lo) := by subst hS; exact fun s => (s.ok.cell (p := ⟨g8, 3, none⟩) lg).trans s0
                              have l1 : ∀ s : Sp S, s.w.cell? ⟨g8, 4, none⟩ = some (.string x.hi) := by subst hS; exact fun s => (s.ok.cell (p := ⟨g8, 4, none⟩) lg).trans s1
                              have l2 : ∀ s : Sp S, s.w.cell? ⟨gk, jj, none⟩ = some (.string p.k) := by subst hS; exact fun s => (s.ok.cell (p := ⟨gk, jj, none⟩) hgk).trans c0
                              have ne : Nonempty (Sp S) := by subst hS; exact ⟨⟨_, st⟩⟩
                              have STEP := hide (show ∀ w w', S w → Below w.heap.size w w' → S w' by subst hS; exact fun _ _ h hb => kept_trans h hb)
                              have OLD := hide (show ∀ s : Sp S, Below wr.heap.size wr s.w by subst hS; exact fun s => s.ok)
                              clear s0 s1 c0 hgk lg
                              clear st hS
                              repeat (go_big_quiet_step ((first | (go_at_call 23; with_reducible exact sp_call STEP.out _ (HH.out _)))))
                              refine wpQuiet_nil ?_
                              intro kk
                              have OK := hide (OLD.out kk)
                              generalize kk.w = wk at OK ⊢
                              clear l0 l1 l2 ne OLD STEP
                              have B7 := hide (kept_trans BX.out OK.out)
                              go_wp2
                              go_roundw
                              case rel => exact ⟨jj + 1, nn, by omega, by go_num, rfl, N4, by omega, B7⟩
                              case measure => simp [intOf]; omega
                            · rw [ht] at HH
                              have N4 : Hid ((inP (ml.take (jj + 1)) x.lo x.hi).length = nn + 1) := hide (by rw [inP_yes HP.out ht, List.length_append, HC.out]; rfl)
                              clear ht
                              refine wp_region_sp (fun w' => Below wr.heap.size wr w') (by kernel_rfl) (by kernel_rfl) st.drew ?_
                              generalize hS : (fun w' => Below wr.heap.size wr w') = S
                              have l0 : ∀ s : Sp S, s.w.cell? ⟨g8, 3, none⟩ = some (.string x.lo) := by subst hS; exact fun s => (s.ok.cell (p := ⟨g8, 3, none⟩) lg).trans s0
                              have l1 : ∀ s : Sp S, s.w.cell? ⟨g8, 4, none⟩ = some (.string x.hi) := by subst hS; exact fun s => (s.ok.cell (p := ⟨g8, 4, none⟩) lg).trans s1
                              have l2 : ∀ s : Sp S, s.w.cell? ⟨gk, jj, none⟩ = some (.string p.k) := by subst hS; exact fun s => (s.ok.cell (p := ⟨gk, jj, none⟩) hgk).trans c0
                              have ne : Nonempty (Sp S) := by subst hS; exact ⟨⟨_, st⟩⟩
                              have STEP := hide (show ∀ w w', S w → Below w.heap.size w w' → S w' by subst hS; exact fun _ _ h hb => kept_trans h hb)
                              have OLD := hide (show ∀ s : Sp S, Below wr.heap.size wr s.w by subst hS; exact fun s => s.ok)
                              clear s0 s1 c0 hgk lg
                              clear st hS
                              repeat (go_big_quiet_step ((first | (go_at_call 23; with_reducible exact sp_call STEP.out _ (HH.out _)))))
                              refine wpQuiet_nil ?_
                              intro kk
                              have OK := hide (OLD.out kk)
                              generalize kk.w = wk at OK ⊢
                              clear l0 l1 l2 ne OLD STEP
                              have B7 := hide (kept_trans BX.out OK.out)
                              go_wp2
                              go_roundw
                              case rel => exact ⟨jj + 1, nn + 1, by omega, by go_num, by go_num, N4, by omega, B7⟩
                              case measure => simp [intOf]; omega
                          · as_aux_lemma =>
                            obtain rfl : jj = j := by omega
                            have hT : (inP ml x.lo x.hi).length = nn := by have := HC.out; rw [List.take_of_length_le (by rw [HN.out]; exact Nat.le_refl _)] at this; exact this
                            have hT2 := (S3.out.count x.lo x.hi).trans hT
                            have hr : (rngP M x.lo x.hi).length = min 8 nn := by rw [← hT2]; unfold rngP; rw [List.length_take]
                            have hm : moreB M x.lo x.hi = decide (8 < nn) := by unfold moreB; rw [hT2]
                            have S4 := hide (S3.out.below BX.out)
                            have R4 := R3.out.below BX.out R3.out.lt
                            have s0 : wr.cell? ⟨g8, 3, none⟩ = some (.string x.lo) := R4.cell 3
                            have s1 : wr.cell? ⟨g8, 4, none⟩ = some (.string x.hi) := R4.cell 4
                            have CR4 := hide (CR.out wr S4.out.m.pin)
                            rw [hm] at CR4
                            clear R4 r3 r4 CR hT hT2 hm
                            by_cases h8 : 8 < nn
                            · have h8' : decide ((8 : Int) < (nn : Int)) = true := decide_eq_true (by omega)
                              have h9 : decide (8 < nn) = true := decide_eq_true h8
                              have hmin : min (nn : Int) 8 = 8 := by omega
                              have hr8 : (rngP M x.lo x.hi).length = 8 := by omega
                              rw [h9] at CR4
                              go_upto_region 49 with (go_at_call 12; (with_reducible refine CR4.out.mono ?_); rintro e w5 ⟨v5, rfl, ho5, hb5⟩; have O5 := hide ho5; have S5 := hide (S4.out.below hb5); clear ho5 hb5)
                              obtain ⟨Ar, cr, rfl, -⟩ := O5.out.slice hr8
                              clear hr hr8 h9 s0 s1
                              go_wp2_with fail
                              go_meet
                              exact ⟨_, _, _, _, M, ml, rfl, rfl, rfl, rfl, hide S5.out.later⟩
                            · have h8' : decide ((8 : Int) < (nn : Int)) = false := decide_eq_false (by omega)
                              have h9 : decide (8 < nn) = false := decide_eq_false h8
                              have hmin : min (nn : Int) 8 = nn := by omega
                              have hr8 : (rngP M x.lo x.hi).length = nn := by omega
                              rw [h9] at CR4
                              go_upto_region 49 with (go_at_call 12; (with_reducible refine CR4.out.mono ?_); rintro e w5 ⟨v5, rfl, ho5, hb5⟩; have O5 := hide ho5; have S5 := hide (S4.out.below hb5); clear ho5 hb5)
                              obtain ⟨Ar, cr, rfl, -⟩ := O5.out.slice hr8
                              clear hr hr8 h9 s0 s1
                              go_wp2_with fail
                              go_meet
                              exact ⟨_, _, _, _, M, ml, rfl, rfl, rfl, rfl, hide S5.out.later⟩
                      · have t1 : (kd == 1) = false := by simpa using k1
                        have t2 : (kd == 2) = false := by simpa using k2
                        have t3 : (kd == 3) = false := by simpa using k3
                        have t4 : (kd == 4) = false := by simpa using k4
                        as_aux_lemma =>
                        go_wp2_with fail
                        go_meet
                        exact ⟨_, _, _, _, M, ml, rfl, rfl, rfl, rfl, hide S3.out.later⟩
              case rest =>
                as_aux_lemma =>
                obtain ⟨vm, vk, vv, vt, M', ml', rfl, rfl, rfl, rfl, S4⟩ := hcut
                have CR := hide S4.out.right_call
                obtain ⟨L', A3, A4, -, -, c3, c4, -, -, rfl, rfl, -, -, -, -, -, -, -, -, -, -, -⟩ := S4.out.slices
                go_wp2_with (go_at_call 15; (with_reducible refine CR.out.mono ?_); rintro e w5 ⟨rfl, hb5⟩; have S5 := hide (S4.out.below hb5); clear hb5)
                go_roundw
                case rel => exact ⟨k + 1, _, _, _, _, M', ml', by omega, by omega, by go_num, rfl, rfl, rfl, rfl, S5⟩
                case measure => simp [intOf]; omega
        · as_aux_lemma =>
          go_wp2
          go_roundw
          case rel => exact ⟨k + 1, _, _, _, _, M, ml, by omega, by omega, by go_num, rfl, rfl, rfl, rfl, hide S2.out.later⟩
          case measure => simp [intOf]; omega
    · as_aux_lemma =>
      by_cases hk2 : k < l.length
      · have h60 : decide ((k : Int) < 60) = false := decide_eq_false (by omega)
        go_wp2_with (go_at_call 3; (with_reducible refine (RUN.out _).mono ?_); rintro e w9 ⟨rfl, hb9⟩)
        go_ret
        exact ⟨rfl, kept_trans S.out.old hb9⟩
      · go_wp2_with (go_at_call 3; (with_reducible refine (RUN.out _).mono ?_); rintro e w9 ⟨rfl, hb9⟩)
        go_ret
        exact ⟨rfl, kept_trans S.out.old hb9⟩
set_option maxRecDepth 100000 in
theorem lifted (os : Os) (started : os.Started) (H : Type) (enc : TypeId × Value → H) :
    ReturnsInHanded {} Try.checked os 5 .any (Rows.kvPlaysSpec.pre6 enc Try.prog Try.f5 Rows.kvPlaysRow.domain false) (Rows.kvPlaysSpec.post enc Try.prog Try.f5 false true false false) := by
  refine returnsInHanded_of_change_sized (C := Try.checked) own started (by kernel_rfl) Try.func5
    (ChangeSpec.witness6 (enc := enc) (C := Try.checked) false ⟨#[], #[.slice none 0 0], []⟩ 8 (by kernel_rfl) (by kernel_rfl) (by kernel_rfl) (by kernel_rfl)) ?_
  intro W base args ds gs before hval0 hW _ hsz0 _
  have hval : ∀ (j : Nat) t v, Try.f5.params[j]? = some t → args[j]? = some v → Value.okWide Try.prog W .any base t v := hval0
  have hW' := hW
  obtain ⟨p, q, hA0, hV, rfl, _, _⟩ := hW
  have hA : DataW.TrodAll enc Try.prog W 0 (fun _ => true) true Try.f5.params.toList args.toList ds p := hA0
  have hsz : (DataW.weightsEach Try.prog (Try.f5.params.toList ++ Rows.kvPlaysSpec.plain.varTypes Try.prog) (ds ++ gs)).all (· ≤ reachBytes) = true := hsz0
  rw [Try.params5] at hA hval hsz
  obtain ⟨v0, vs0, d0, ds0, p0, q0, hargs, rfl, rfl, h0, r0⟩ := trodAll_cons hA
  obtain ⟨rfl, rfl, rfl⟩ := trodAll_nil r0
  obtain rfl : args = #[v0] := by cases args; simp_all
  obtain ⟨rfl, rfl⟩ := trodVars_none hV
  have k0 := h0
  have lt0 : ∀ x ∈ p0, x.block < W.heap.size := by obtain ⟨m, hm⟩ := k0; exact DataW.trod_lt m _ _ _ hm
  obtain ⟨A0, n0, c0, rfl⟩ := okWide_slice Try.underlying45 (hval 0 45 v0 rfl rfl)
  obtain ⟨z0, s0⟩ := kasks_in (j := 0) h0 hsz rfl rfl
  clear hA0 hval0
  refine (walk A0 n0 c0 z0 W s0).mono fun e W' ⟨he, bel⟩ => ?_
  subst he
  exact ⟨_, rfl, _, _, _, [], _, [], hW', trodAll_mk1 (shut_bool Try.underlying4 _), (trodAll_cons_mk (Below.trod laidOut (by kernel_rfl) (of_decide_eq_true (by kernel_rfl)) k0 bel lt0) trodAll_mk0), rfl, bel.frame _, fun h => by cases h⟩
theorem over : Rows.kvPlaysRow.holds Try.pinned (OpenSpec.ofChange Rows.kvPlaysSpec) :=
  OpenClaim.holds_of_wide 5 Try.f5 rfl rfl rfl rfl rfl rfl rfl ⟨rfl, rfl, rfl, rfl, rfl⟩ rfl rfl rfl rfl rfl (by kernel_rfl) Try.func5 (by kernel_rfl)
    (of_decide_eq_true (by kernel_rfl)) (by unfold Func.isWrapper; first | (rw [if_pos (by decide +kernel)]; kernel_rfl) | (rw [if_neg (by decide +kernel)]; exact ⟨rfl, rfl⟩))
    (fun os started H enc _ => lifted os started H enc)
theorem proved : Rows.KvPlaysSaid := over
end Go.Proofs.Ytmcemijipplkgaa.kvPlays
