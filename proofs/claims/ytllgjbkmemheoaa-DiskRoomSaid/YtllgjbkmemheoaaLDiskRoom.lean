/- Proved: the law DiskRoom returns true. Conditions: none beyond the row's own. -/
import Derived.Test.YtllgjbkmemheoaaFrame
import Derived.Test.YtllgjbkmemheoaaRoomp
import Derived.Test.YtllgjbkmemheoaaParts
import Derived.Deep.DeepCutAuto
namespace Go.Proofs.Ytllgjbkmemheoaa.diskRoom
open Go.ChangeShapes Go.WideShapes Go.ChangeAt Go.RowKit
set_option maxRecDepth 100000 in
set_option maxHeartbeats 8000000 in
theorem walk (n0 : Int) (A : Option Addr) (m c : Nat) (it : Nat → Sb) (W : World) (_ : -9223372036854775808 ≤ n0 ∧ n0 ≤ 9223372036854775807) (h : PartsIn W A m c it) :
    Calls Try.prog 7 #[.int .i64 n0, .slice A m c] W fun e w' => e = .returned (.bool true) ∧ Below W.heap.size W w' := by
  have hmx : (m : Int) ≤ 9223372036854775807 := by have := h.le; have := h.room; omega
  have hwb := withinI_bounds n0 0 200 (by omega)
  obtain ⟨q, hk⟩ : ∃ q : Nat, withinI n0 0 200 = q := ⟨(withinI n0 0 200).toNat, by omega⟩
  have hq2 : q ≤ 200 := by omega
  have hwi := hide (fun w => hk ▸ within_any n0 0 200 w (by omega) (by omega) (by omega))
  have HP := hide h
  clear hwb hk h
  go_enter Try.func7, Try.ntmps7
  go_wp2_with (first
    | (go_at_call 10; (with_reducible refine (new_q q W (by omega)).mono ?_); rintro e w1 ⟨g, rfl, hq, hb⟩; have L1 := hide (Lw.start hq hb); clear hq hb)
    | (go_at_call 23; (with_reducible refine (hwi.out _).mono ?_); rintro e w2 ⟨rfl, rfl⟩))
  go_loopw [8] (fun i wr => ∃ (j : Nat) (d : DS), j ≤ m ∧ j ≤ 30 ∧ i = .int .i64 j ∧ Hid (Lw W (fun k => k < W.heap.size) wr g d) ∧ Hid (Rm d q j)) (fun i _ => m - (intOf i).toNat)
  case atStart => exact ⟨0, _, by omega, by omega, rfl, L1, rm0 hq2⟩
  case round =>
    clear L1 hwi
    obtain ⟨j, d, hj, hj30, rfl, hL, hR⟩ := hrel
    by_cases hlt : j < 30 ∧ j < m
    · obtain ⟨hlt1, hlt2⟩ := hlt
      obtain ⟨b, off, rfl, hc0, hs⟩ := part_cell HP.out hL.out.low hlt2
      have hcut := hide (cut_arg 100 hs hL.out.low hL.out.xs)
      have hwhole := hide (SliceIn.arg hs hL.out)
      have hlen := hs.len
      have hroom := hs.room
      have hle := hs.le
      by_cases h50 : 100 < (it j).n
      · by_cases hfit : total d.l + 100 ≤ q
        · by_cases h5 : j % 5 = 4
          · have h5b : ((j : Int) % 5 == 4) = true := by simp; omega
            cases hfd : find (nmR j) (appS d (nmR j) ((it j).zs.take 100)).l with
            | some f =>
              have hmin : min 100 (it j).n = 100 := by omega
              rw [hmin] at hcut
              have hzl : ((it j).zs.take 100).length = 100 := by rw [List.length_take]; omega
              have hA := rm_app (nm := nmR j) (p := ((it j).zs.take 100)) hR.out (okR j) (by omega) (fun z hz => hs.oct z (List.mem_of_mem_take hz))
              obtain ⟨d1, hd1⟩ : ∃ d1, appS d (nmR j) ((it j).zs.take 100) = d1 := ⟨_, rfl⟩
              rw [hd1] at hA
              rw [hd1] at hfd
              obtain ⟨hx, ht1, hR1⟩ := hA
              have HA := hide (show ∀ w5, Lw W (fun k => k < W.heap.size) w5 g d → Calls Try.prog 11 #[.pointer (some ⟨g, 0, none⟩), .string (nmR j), .slice (it j).A 100 (it j).c] w5 (RunP W (fun k => k < W.heap.size) g 0 d1) from fun w5 L5 => app_run L5 (by have k5 := cut_arg 100 hs L5.low L5.xs; rw [hmin] at k5; exact k5) ⟨hx, hd1⟩ (by rw [szR]; omega) (by have := hR.out.len; omega))
              have ht0 := hR.out.ok.tot
              have hq0 := hR.out.q
              have hqt : total d.l ≤ q := by omega
              have ht2 : total d1.l ≤ total d.l + 100 := by omega
              have ht3 : total d.l + 100 ≤ total d1.l := by omega
              have hf2 : total d.l + 100 ≤ q := by omega
              have HQ := hide hR1.q
              have HC := hide (conv_name j)
              have hM := rm_rem (nm := nmR j) hR1
              obtain ⟨d2, hd2⟩ : ∃ d2, remS d1 (nmR j) = d2 := ⟨_, rfl⟩
              rw [hd2] at hM
              have HF := hide hfd
              have hM1 : remE d1 (nmR j) = 0 := by rw [hM.1, hfd]; rfl
              obtain ⟨_, hM2, hM3, hR2⟩ := hM
              rw [hfd] at hM2 hM3
              replace hM2 : total d2.l = total d1.l - f.dt.length := hM2
              replace hM3 : f.dt.length ≤ total d1.l := hM3
              have hne : ((total d2.l : Int) != (total d1.l : Int) - ((f.dt.length : Nat) : Int)) = false := by simp; omega
              have hfl := flen hR1.ok (find_mem hfd).1
              have HRD := hide (show ∀ w5, Lw W (fun k => k < W.heap.size) w5 g d1 → Calls Try.prog 14 #[.pointer (some ⟨g, 0, none⟩), .string (nmR j)] w5 fun e w' => ∃ A c, e = .returned (.tuple #[.slice A f.dt.length c, .bool true]) ∧ Lw W (fun k => k < W.heap.size) w' g d1 from fun w5 L5 => (read_yes L5 HF.out (by rw [szR]; omega)).mono fun _ _ ⟨A, c, h1, h2, _⟩ => ⟨A, c, h1, h2.drop L5.xs⟩)
              have HRM := hide (show ∀ w5, Lw W (fun k => k < W.heap.size) w5 g d1 → Calls Try.prog 22 #[.pointer (some ⟨g, 0, none⟩), .string (nmR j)] w5 (RunP W (fun k => k < W.heap.size) g 0 d2) from fun w5 L5 => rem_run L5 ⟨hM1, hd2⟩ (by rw [szR]; omega))
              have HEND := hide hR2
              have L := hL
              clear hL hR hcut hwhole hzl hlen hs hx hd1 ht0 hq0 ht1 hR1 hfit HP hmin hR2 hM1 hM2 hd2 hfd HF
              generalize nmR j = nm at *
              generalize (it j).A = B at *
              generalize (it j).c = cb at *
              generalize (it j).n = nn at *
              generalize f.dt.length = fl at *
              go_wp2_with (first
                | (go_at_call 11; (with_reducible refine (HA.out _ (L.out.below (kept_alloc (kept_refl _) _))).mono ?_); rintro e w5 ⟨rfl, h2⟩; clear L HA; have L := hide h2; clear h2)
                | (go_at_call 24; (with_reducible refine (tot_run L.out).mono ?_); rintro e w4 ⟨rfl, h2⟩; have hcv := HC.out w4; clear L; have L := hide h2; clear h2)
                | (go_at_call 25; (with_reducible refine (roo_run HQ.out L.out).mono ?_); rintro e w4 ⟨rfl, h2⟩; clear L; have L := hide h2; clear h2)
                | (go_at_call 14; (with_reducible refine (HRD.out _ L.out).mono ?_); rintro e w6 ⟨A6, c6, rfl, h2⟩; clear L HRD; have L := hide h2; clear h2)
                | (go_at_call 22; (with_reducible refine (HRM.out _ L.out).mono ?_); rintro e w7 ⟨rfl, h2⟩; clear L HRM; have L := hide h2; clear h2))
              go_roundw
              case rel => exact ⟨j + 1, d2, by omega, by omega, by go_num, L, HEND⟩
              case measure => simp [intOf]; omega
            | none =>
              have hmin : min 100 (it j).n = 100 := by omega
              rw [hmin] at hcut
              have hzl : ((it j).zs.take 100).length = 100 := by rw [List.length_take]; omega
              have hA := rm_app (nm := nmR j) (p := ((it j).zs.take 100)) hR.out (okR j) (by omega) (fun z hz => hs.oct z (List.mem_of_mem_take hz))
              obtain ⟨d1, hd1⟩ : ∃ d1, appS d (nmR j) ((it j).zs.take 100) = d1 := ⟨_, rfl⟩
              rw [hd1] at hA
              rw [hd1] at hfd
              obtain ⟨hx, ht1, hR1⟩ := hA
              have HA := hide (show ∀ w5, Lw W (fun k => k < W.heap.size) w5 g d → Calls Try.prog 11 #[.pointer (some ⟨g, 0, none⟩), .string (nmR j), .slice (it j).A 100 (it j).c] w5 (RunP W (fun k => k < W.heap.size) g 0 d1) from fun w5 L5 => app_run L5 (by have k5 := cut_arg 100 hs L5.low L5.xs; rw [hmin] at k5; exact k5) ⟨hx, hd1⟩ (by rw [szR]; omega) (by have := hR.out.len; omega))
              have ht0 := hR.out.ok.tot
              have hq0 := hR.out.q
              have hqt : total d.l ≤ q := by omega
              have ht2 : total d1.l ≤ total d.l + 100 := by omega
              have ht3 : total d.l + 100 ≤ total d1.l := by omega
              have hf2 : total d.l + 100 ≤ q := by omega
              have HQ := hide hR1.q
              have HC := hide (conv_name j)
              have hM := rm_rem (nm := nmR j) hR1
              obtain ⟨d2, hd2⟩ : ∃ d2, remS d1 (nmR j) = d2 := ⟨_, rfl⟩
              rw [hd2] at hM
              have HF := hide hfd
              have hM1 : remE d1 (nmR j) = 8 := by rw [hM.1, hfd]; rfl
              obtain ⟨_, hM2, hM3, hR2⟩ := hM
              rw [hfd] at hM2 hM3
              replace hM2 : total d2.l = total d1.l - 0 := hM2
              replace hM3 : 0 ≤ total d1.l := hM3
              have hne : ((total d2.l : Int) != (total d1.l : Int)) = false := by simp; omega
              have HRD := hide (show ∀ w5, Lw W (fun k => k < W.heap.size) w5 g d1 → Calls Try.prog 14 #[.pointer (some ⟨g, 0, none⟩), .string (nmR j)] w5 fun e w' => ∃ A c, e = .returned (.tuple #[.slice A 0 c, .bool false]) ∧ Lw W (fun k => k < W.heap.size) w' g d1 from fun w5 L5 => (read_no L5 HF.out (by rw [szR]; omega)).mono fun _ _ ⟨A, c, h1, h2, _⟩ => ⟨A, c, h1, h2⟩)
              have HRM := hide (show ∀ w5, Lw W (fun k => k < W.heap.size) w5 g d1 → Calls Try.prog 22 #[.pointer (some ⟨g, 0, none⟩), .string (nmR j)] w5 (RunP W (fun k => k < W.heap.size) g 8 d2) from fun w5 L5 => rem_run L5 ⟨hM1, hd2⟩ (by rw [szR]; omega))
              have HEND := hide hR2
              have L := hL
              clear hL hR hcut hwhole hzl hlen hs hx hd1 ht0 hq0 ht1 hR1 hfit HP hmin hR2 hM1 hM2 hd2 hfd HF
              generalize nmR j = nm at *
              generalize (it j).A = B at *
              generalize (it j).c = cb at *
              generalize (it j).n = nn at *
              go_wp2_with (first
                | (go_at_call 11; (with_reducible refine (HA.out _ (L.out.below (kept_alloc (kept_refl _) _))).mono ?_); rintro e w5 ⟨rfl, h2⟩; clear L HA; have L := hide h2; clear h2)
                | (go_at_call 24; (with_reducible refine (tot_run L.out).mono ?_); rintro e w4 ⟨rfl, h2⟩; have hcv := HC.out w4; clear L; have L := hide h2; clear h2)
                | (go_at_call 25; (with_reducible refine (roo_run HQ.out L.out).mono ?_); rintro e w4 ⟨rfl, h2⟩; clear L; have L := hide h2; clear h2)
                | (go_at_call 14; (with_reducible refine (HRD.out _ L.out).mono ?_); rintro e w6 ⟨A6, c6, rfl, h2⟩; clear L HRD; have L := hide h2; clear h2)
                | (go_at_call 22; (with_reducible refine (HRM.out _ L.out).mono ?_); rintro e w7 ⟨rfl, h2⟩; clear L HRM; have L := hide h2; clear h2))
              go_roundw
              case rel => exact ⟨j + 1, d2, by omega, by omega, by go_num, L, HEND⟩
              case measure => simp [intOf]; omega
          · have h5b : ((j : Int) % 5 == 4) = false := by simp; omega
            have hmin : min 100 (it j).n = 100 := by omega
            rw [hmin] at hcut
            have hzl : ((it j).zs.take 100).length = 100 := by rw [List.length_take]; omega
            have hA := rm_app (nm := nmR j) (p := ((it j).zs.take 100)) hR.out (okR j) (by omega) (fun z hz => hs.oct z (List.mem_of_mem_take hz))
            obtain ⟨d1, hd1⟩ : ∃ d1, appS d (nmR j) ((it j).zs.take 100) = d1 := ⟨_, rfl⟩
            rw [hd1] at hA
            obtain ⟨hx, ht1, hR1⟩ := hA
            have HA := hide (show ∀ w5, Lw W (fun k => k < W.heap.size) w5 g d → Calls Try.prog 11 #[.pointer (some ⟨g, 0, none⟩), .string (nmR j), .slice (it j).A 100 (it j).c] w5 (RunP W (fun k => k < W.heap.size) g 0 d1) from fun w5 L5 => app_run L5 (by have k5 := cut_arg 100 hs L5.low L5.xs; rw [hmin] at k5; exact k5) ⟨hx, hd1⟩ (by rw [szR]; omega) (by have := hR.out.len; omega))
            have ht0 := hR.out.ok.tot
            have hq0 := hR.out.q
            have hqt : total d.l ≤ q := by omega
            have ht2 : total d1.l ≤ total d.l + 100 := by omega
            have ht3 : total d.l + 100 ≤ total d1.l := by omega
            have hf2 : total d.l + 100 ≤ q := by omega
            have HQ := hide hR1.q
            have HC := hide (conv_name j)
            have HEND := hide hR1
            have L := hL
            clear hL hR hcut hwhole hzl hlen hs hx hd1 ht0 hq0 ht1 hR1 hfit HP hmin
            generalize nmR j = nm at *
            generalize (it j).A = B at *
            generalize (it j).c = cb at *
            generalize (it j).n = nn at *
            go_wp2_with (first
              | (go_at_call 11; (with_reducible refine (HA.out _ (L.out.below (kept_alloc (kept_refl _) _))).mono ?_); rintro e w5 ⟨rfl, h2⟩; clear L HA; have L := hide h2; clear h2)
              | (go_at_call 24; (with_reducible refine (tot_run L.out).mono ?_); rintro e w4 ⟨rfl, h2⟩; have hcv := HC.out w4; clear L; have L := hide h2; clear h2)
              | (go_at_call 25; (with_reducible refine (roo_run HQ.out L.out).mono ?_); rintro e w4 ⟨rfl, h2⟩; clear L; have L := hide h2; clear h2))
            go_roundw
            case rel => exact ⟨j + 1, d1, by omega, by omega, by go_num, L, HEND⟩
            case measure => simp [intOf]; omega
        · by_cases h5 : j % 5 = 4
          · have h5b : ((j : Int) % 5 == 4) = true := by simp; omega
            cases hfd : find (nmR j) (appS d (nmR j) ((it j).zs.take 100)).l with
            | some f =>
              have hmin : min 100 (it j).n = 100 := by omega
              rw [hmin] at hcut
              have hzl : ((it j).zs.take 100).length = 100 := by rw [List.length_take]; omega
              have hA := rm_full (nm := nmR j) (p := ((it j).zs.take 100)) hR.out (okR j) (by omega)
              obtain ⟨d1, hd1⟩ : ∃ d1, appS d (nmR j) ((it j).zs.take 100) = d1 := ⟨_, rfl⟩
              rw [hd1] at hA
              rw [hd1] at hfd
              obtain ⟨hx, hdd⟩ := hA
              have ht1 : total d1.l = total d.l := by rw [hdd]
              have hR1 : Rm d1 q (j + 1) := by rw [hdd]; exact ⟨hR.out.ok, hR.out.q, hR.out.left, hR.out.off, Nat.le_succ_of_le hR.out.len⟩
              have HA := hide (show ∀ w5, Lw W (fun k => k < W.heap.size) w5 g d → Calls Try.prog 11 #[.pointer (some ⟨g, 0, none⟩), .string (nmR j), .slice (it j).A 100 (it j).c] w5 (RunP W (fun k => k < W.heap.size) g 7 d1) from fun w5 L5 => app_run L5 (by have k5 := cut_arg 100 hs L5.low L5.xs; rw [hmin] at k5; exact k5) ⟨hx, hd1⟩ (by rw [szR]; omega) (by have := hR.out.len; omega))
              have ht0 := hR.out.ok.tot
              have hq0 := hR.out.q
              have hqt : total d.l ≤ q := by omega
              have ht2 : total d1.l ≤ total d.l := by omega
              have ht3 : total d.l ≤ total d1.l := by omega
              have hf2 : q < total d.l + 100 := by omega
              have HQ := hide hR1.q
              have HC := hide (conv_name j)
              have hM := rm_rem (nm := nmR j) hR1
              obtain ⟨d2, hd2⟩ : ∃ d2, remS d1 (nmR j) = d2 := ⟨_, rfl⟩
              rw [hd2] at hM
              have HF := hide hfd
              have hM1 : remE d1 (nmR j) = 0 := by rw [hM.1, hfd]; rfl
              obtain ⟨_, hM2, hM3, hR2⟩ := hM
              rw [hfd] at hM2 hM3
              replace hM2 : total d2.l = total d1.l - f.dt.length := hM2
              replace hM3 : f.dt.length ≤ total d1.l := hM3
              have hne : ((total d2.l : Int) != (total d1.l : Int) - ((f.dt.length : Nat) : Int)) = false := by simp; omega
              have hfl := flen hR1.ok (find_mem hfd).1
              have HRD := hide (show ∀ w5, Lw W (fun k => k < W.heap.size) w5 g d1 → Calls Try.prog 14 #[.pointer (some ⟨g, 0, none⟩), .string (nmR j)] w5 fun e w' => ∃ A c, e = .returned (.tuple #[.slice A f.dt.length c, .bool true]) ∧ Lw W (fun k => k < W.heap.size) w' g d1 from fun w5 L5 => (read_yes L5 HF.out (by rw [szR]; omega)).mono fun _ _ ⟨A, c, h1, h2, _⟩ => ⟨A, c, h1, h2.drop L5.xs⟩)
              have HRM := hide (show ∀ w5, Lw W (fun k => k < W.heap.size) w5 g d1 → Calls Try.prog 22 #[.pointer (some ⟨g, 0, none⟩), .string (nmR j)] w5 (RunP W (fun k => k < W.heap.size) g 0 d2) from fun w5 L5 => rem_run L5 ⟨hM1, hd2⟩ (by rw [szR]; omega))
              have HEND := hide hR2
              have L := hL
              clear hL hR hcut hwhole hzl hlen hs hx hd1 ht0 hq0 ht1 hR1 hfit HP hmin hdd hR2 hM1 hM2 hd2 hfd HF
              generalize nmR j = nm at *
              generalize (it j).A = B at *
              generalize (it j).c = cb at *
              generalize (it j).n = nn at *
              generalize f.dt.length = fl at *
              go_wp2_with (first
                | (go_at_call 11; (with_reducible refine (HA.out _ (L.out.below (kept_alloc (kept_refl _) _))).mono ?_); rintro e w5 ⟨rfl, h2⟩; clear L HA; have L := hide h2; clear h2)
                | (go_at_call 24; (with_reducible refine (tot_run L.out).mono ?_); rintro e w4 ⟨rfl, h2⟩; have hcv := HC.out w4; clear L; have L := hide h2; clear h2)
                | (go_at_call 25; (with_reducible refine (roo_run HQ.out L.out).mono ?_); rintro e w4 ⟨rfl, h2⟩; clear L; have L := hide h2; clear h2)
                | (go_at_call 14; (with_reducible refine (HRD.out _ L.out).mono ?_); rintro e w6 ⟨A6, c6, rfl, h2⟩; clear L HRD; have L := hide h2; clear h2)
                | (go_at_call 22; (with_reducible refine (HRM.out _ L.out).mono ?_); rintro e w7 ⟨rfl, h2⟩; clear L HRM; have L := hide h2; clear h2))
              go_roundw
              case rel => exact ⟨j + 1, d2, by omega, by omega, by go_num, L, HEND⟩
              case measure => simp [intOf]; omega
            | none =>
              have hmin : min 100 (it j).n = 100 := by omega
              rw [hmin] at hcut
              have hzl : ((it j).zs.take 100).length = 100 := by rw [List.length_take]; omega
              have hA := rm_full (nm := nmR j) (p := ((it j).zs.take 100)) hR.out (okR j) (by omega)
              obtain ⟨d1, hd1⟩ : ∃ d1, appS d (nmR j) ((it j).zs.take 100) = d1 := ⟨_, rfl⟩
              rw [hd1] at hA
              rw [hd1] at hfd
              obtain ⟨hx, hdd⟩ := hA
              have ht1 : total d1.l = total d.l := by rw [hdd]
              have hR1 : Rm d1 q (j + 1) := by rw [hdd]; exact ⟨hR.out.ok, hR.out.q, hR.out.left, hR.out.off, Nat.le_succ_of_le hR.out.len⟩
              have HA := hide (show ∀ w5, Lw W (fun k => k < W.heap.size) w5 g d → Calls Try.prog 11 #[.pointer (some ⟨g, 0, none⟩), .string (nmR j), .slice (it j).A 100 (it j).c] w5 (RunP W (fun k => k < W.heap.size) g 7 d1) from fun w5 L5 => app_run L5 (by have k5 := cut_arg 100 hs L5.low L5.xs; rw [hmin] at k5; exact k5) ⟨hx, hd1⟩ (by rw [szR]; omega) (by have := hR.out.len; omega))
              have ht0 := hR.out.ok.tot
              have hq0 := hR.out.q
              have hqt : total d.l ≤ q := by omega
              have ht2 : total d1.l ≤ total d.l := by omega
              have ht3 : total d.l ≤ total d1.l := by omega
              have hf2 : q < total d.l + 100 := by omega
              have HQ := hide hR1.q
              have HC := hide (conv_name j)
              have hM := rm_rem (nm := nmR j) hR1
              obtain ⟨d2, hd2⟩ : ∃ d2, remS d1 (nmR j) = d2 := ⟨_, rfl⟩
              rw [hd2] at hM
              have HF := hide hfd
              have hM1 : remE d1 (nmR j) = 8 := by rw [hM.1, hfd]; rfl
              obtain ⟨_, hM2, hM3, hR2⟩ := hM
              rw [hfd] at hM2 hM3
              replace hM2 : total d2.l = total d1.l - 0 := hM2
              replace hM3 : 0 ≤ total d1.l := hM3
              have hne : ((total d2.l : Int) != (total d1.l : Int)) = false := by simp; omega
              have HRD := hide (show ∀ w5, Lw W (fun k => k < W.heap.size) w5 g d1 → Calls Try.prog 14 #[.pointer (some ⟨g, 0, none⟩), .string (nmR j)] w5 fun e w' => ∃ A c, e = .returned (.tuple #[.slice A 0 c, .bool false]) ∧ Lw W (fun k => k < W.heap.size) w' g d1 from fun w5 L5 => (read_no L5 HF.out (by rw [szR]; omega)).mono fun _ _ ⟨A, c, h1, h2, _⟩ => ⟨A, c, h1, h2⟩)
              have HRM := hide (show ∀ w5, Lw W (fun k => k < W.heap.size) w5 g d1 → Calls Try.prog 22 #[.pointer (some ⟨g, 0, none⟩), .string (nmR j)] w5 (RunP W (fun k => k < W.heap.size) g 8 d2) from fun w5 L5 => rem_run L5 ⟨hM1, hd2⟩ (by rw [szR]; omega))
              have HEND := hide hR2
              have L := hL
              clear hL hR hcut hwhole hzl hlen hs hx hd1 ht0 hq0 ht1 hR1 hfit HP hmin hdd hR2 hM1 hM2 hd2 hfd HF
              generalize nmR j = nm at *
              generalize (it j).A = B at *
              generalize (it j).c = cb at *
              generalize (it j).n = nn at *
              go_wp2_with (first
                | (go_at_call 11; (with_reducible refine (HA.out _ (L.out.below (kept_alloc (kept_refl _) _))).mono ?_); rintro e w5 ⟨rfl, h2⟩; clear L HA; have L := hide h2; clear h2)
                | (go_at_call 24; (with_reducible refine (tot_run L.out).mono ?_); rintro e w4 ⟨rfl, h2⟩; have hcv := HC.out w4; clear L; have L := hide h2; clear h2)
                | (go_at_call 25; (with_reducible refine (roo_run HQ.out L.out).mono ?_); rintro e w4 ⟨rfl, h2⟩; clear L; have L := hide h2; clear h2)
                | (go_at_call 14; (with_reducible refine (HRD.out _ L.out).mono ?_); rintro e w6 ⟨A6, c6, rfl, h2⟩; clear L HRD; have L := hide h2; clear h2)
                | (go_at_call 22; (with_reducible refine (HRM.out _ L.out).mono ?_); rintro e w7 ⟨rfl, h2⟩; clear L HRM; have L := hide h2; clear h2))
              go_roundw
              case rel => exact ⟨j + 1, d2, by omega, by omega, by go_num, L, HEND⟩
              case measure => simp [intOf]; omega
          · have h5b : ((j : Int) % 5 == 4) = false := by simp; omega
            have hmin : min 100 (it j).n = 100 := by omega
            rw [hmin] at hcut
            have hzl : ((it j).zs.take 100).length = 100 := by rw [List.length_take]; omega
            have hA := rm_full (nm := nmR j) (p := ((it j).zs.take 100)) hR.out (okR j) (by omega)
            obtain ⟨d1, hd1⟩ : ∃ d1, appS d (nmR j) ((it j).zs.take 100) = d1 := ⟨_, rfl⟩
            rw [hd1] at hA
            obtain ⟨hx, hdd⟩ := hA
            have ht1 : total d1.l = total d.l := by rw [hdd]
            have hR1 : Rm d1 q (j + 1) := by rw [hdd]; exact ⟨hR.out.ok, hR.out.q, hR.out.left, hR.out.off, Nat.le_succ_of_le hR.out.len⟩
            have HA := hide (show ∀ w5, Lw W (fun k => k < W.heap.size) w5 g d → Calls Try.prog 11 #[.pointer (some ⟨g, 0, none⟩), .string (nmR j), .slice (it j).A 100 (it j).c] w5 (RunP W (fun k => k < W.heap.size) g 7 d1) from fun w5 L5 => app_run L5 (by have k5 := cut_arg 100 hs L5.low L5.xs; rw [hmin] at k5; exact k5) ⟨hx, hd1⟩ (by rw [szR]; omega) (by have := hR.out.len; omega))
            have ht0 := hR.out.ok.tot
            have hq0 := hR.out.q
            have hqt : total d.l ≤ q := by omega
            have ht2 : total d1.l ≤ total d.l := by omega
            have ht3 : total d.l ≤ total d1.l := by omega
            have hf2 : q < total d.l + 100 := by omega
            have HQ := hide hR1.q
            have HC := hide (conv_name j)
            have HEND := hide hR1
            have L := hL
            clear hL hR hcut hwhole hzl hlen hs hx hd1 ht0 hq0 ht1 hR1 hfit HP hmin hdd
            generalize nmR j = nm at *
            generalize (it j).A = B at *
            generalize (it j).c = cb at *
            generalize (it j).n = nn at *
            go_wp2_with (first
              | (go_at_call 11; (with_reducible refine (HA.out _ (L.out.below (kept_alloc (kept_refl _) _))).mono ?_); rintro e w5 ⟨rfl, h2⟩; clear L HA; have L := hide h2; clear h2)
              | (go_at_call 24; (with_reducible refine (tot_run L.out).mono ?_); rintro e w4 ⟨rfl, h2⟩; have hcv := HC.out w4; clear L; have L := hide h2; clear h2)
              | (go_at_call 25; (with_reducible refine (roo_run HQ.out L.out).mono ?_); rintro e w4 ⟨rfl, h2⟩; clear L; have L := hide h2; clear h2))
            go_roundw
            case rel => exact ⟨j + 1, d1, by omega, by omega, by go_num, L, HEND⟩
            case measure => simp [intOf]; omega
      · by_cases hfit : total d.l + (it j).n ≤ q
        · by_cases h5 : j % 5 = 4
          · have h5b : ((j : Int) % 5 == 4) = true := by simp; omega
            cases hfd : find (nmR j) (appS d (nmR j) (it j).zs).l with
            | some f =>
              have hzl : (it j).zs.length = (it j).n := hlen
              have hn50 : (it j).n ≤ 100 := by omega
              have hA := rm_app (nm := nmR j) (p := (it j).zs) hR.out (okR j) (by omega) hs.oct
              obtain ⟨d1, hd1⟩ : ∃ d1, appS d (nmR j) (it j).zs = d1 := ⟨_, rfl⟩
              rw [hd1] at hA
              rw [hd1] at hfd
              obtain ⟨hx, ht1, hR1⟩ := hA
              have HA := hide (show ∀ w5, Lw W (fun k => k < W.heap.size) w5 g d → Calls Try.prog 11 #[.pointer (some ⟨g, 0, none⟩), .string (nmR j), .slice (it j).A (it j).n (it j).c] w5 (RunP W (fun k => k < W.heap.size) g 0 d1) from fun w5 L5 => app_run L5 (SliceIn.arg hs L5) ⟨hx, hd1⟩ (by rw [szR]; omega) (by have := hR.out.len; omega))
              have ht0 := hR.out.ok.tot
              have hq0 := hR.out.q
              have hqt : total d.l ≤ q := by omega
              have ht2 : total d1.l ≤ total d.l + (it j).n := by omega
              have ht3 : total d.l + (it j).n ≤ total d1.l := by omega
              have hf2 : total d.l + (it j).n ≤ q := by omega
              have HQ := hide hR1.q
              have HC := hide (conv_name j)
              have hM := rm_rem (nm := nmR j) hR1
              obtain ⟨d2, hd2⟩ : ∃ d2, remS d1 (nmR j) = d2 := ⟨_, rfl⟩
              rw [hd2] at hM
              have HF := hide hfd
              have hM1 : remE d1 (nmR j) = 0 := by rw [hM.1, hfd]; rfl
              obtain ⟨_, hM2, hM3, hR2⟩ := hM
              rw [hfd] at hM2 hM3
              replace hM2 : total d2.l = total d1.l - f.dt.length := hM2
              replace hM3 : f.dt.length ≤ total d1.l := hM3
              have hne : ((total d2.l : Int) != (total d1.l : Int) - ((f.dt.length : Nat) : Int)) = false := by simp; omega
              have hfl := flen hR1.ok (find_mem hfd).1
              have HRD := hide (show ∀ w5, Lw W (fun k => k < W.heap.size) w5 g d1 → Calls Try.prog 14 #[.pointer (some ⟨g, 0, none⟩), .string (nmR j)] w5 fun e w' => ∃ A c, e = .returned (.tuple #[.slice A f.dt.length c, .bool true]) ∧ Lw W (fun k => k < W.heap.size) w' g d1 from fun w5 L5 => (read_yes L5 HF.out (by rw [szR]; omega)).mono fun _ _ ⟨A, c, h1, h2, _⟩ => ⟨A, c, h1, h2.drop L5.xs⟩)
              have HRM := hide (show ∀ w5, Lw W (fun k => k < W.heap.size) w5 g d1 → Calls Try.prog 22 #[.pointer (some ⟨g, 0, none⟩), .string (nmR j)] w5 (RunP W (fun k => k < W.heap.size) g 0 d2) from fun w5 L5 => rem_run L5 ⟨hM1, hd2⟩ (by rw [szR]; omega))
              have HEND := hide hR2
              have L := hL
              clear hL hR hcut hwhole hzl hlen hs hx hd1 ht0 hq0 ht1 hR1 hfit HP hR2 hM1 hM2 hd2 hfd HF
              generalize nmR j = nm at *
              generalize (it j).A = B at *
              generalize (it j).c = cb at *
              generalize (it j).n = nn at *
              generalize f.dt.length = fl at *
              go_wp2_with (first
                | (go_at_call 11; (with_reducible refine (HA.out _ (L.out.below (kept_alloc (kept_refl _) _))).mono ?_); rintro e w5 ⟨rfl, h2⟩; clear L HA; have L := hide h2; clear h2)
                | (go_at_call 24; (with_reducible refine (tot_run L.out).mono ?_); rintro e w4 ⟨rfl, h2⟩; have hcv := HC.out w4; clear L; have L := hide h2; clear h2)
                | (go_at_call 25; (with_reducible refine (roo_run HQ.out L.out).mono ?_); rintro e w4 ⟨rfl, h2⟩; clear L; have L := hide h2; clear h2)
                | (go_at_call 14; (with_reducible refine (HRD.out _ L.out).mono ?_); rintro e w6 ⟨A6, c6, rfl, h2⟩; clear L HRD; have L := hide h2; clear h2)
                | (go_at_call 22; (with_reducible refine (HRM.out _ L.out).mono ?_); rintro e w7 ⟨rfl, h2⟩; clear L HRM; have L := hide h2; clear h2))
              go_roundw
              case rel => exact ⟨j + 1, d2, by omega, by omega, by go_num, L, HEND⟩
              case measure => simp [intOf]; omega
            | none =>
              have hzl : (it j).zs.length = (it j).n := hlen
              have hn50 : (it j).n ≤ 100 := by omega
              have hA := rm_app (nm := nmR j) (p := (it j).zs) hR.out (okR j) (by omega) hs.oct
              obtain ⟨d1, hd1⟩ : ∃ d1, appS d (nmR j) (it j).zs = d1 := ⟨_, rfl⟩
              rw [hd1] at hA
              rw [hd1] at hfd
              obtain ⟨hx, ht1, hR1⟩ := hA
              have HA := hide (show ∀ w5, Lw W (fun k => k < W.heap.size) w5 g d → Calls Try.prog 11 #[.pointer (some ⟨g, 0, none⟩), .string (nmR j), .slice (it j).A (it j).n (it j).c] w5 (RunP W (fun k => k < W.heap.size) g 0 d1) from fun w5 L5 => app_run L5 (SliceIn.arg hs L5) ⟨hx, hd1⟩ (by rw [szR]; omega) (by have := hR.out.len; omega))
              have ht0 := hR.out.ok.tot
              have hq0 := hR.out.q
              have hqt : total d.l ≤ q := by omega
              have ht2 : total d1.l ≤ total d.l + (it j).n := by omega
              have ht3 : total d.l + (it j).n ≤ total d1.l := by omega
              have hf2 : total d.l + (it j).n ≤ q := by omega
              have HQ := hide hR1.q
              have HC := hide (conv_name j)
              have hM := rm_rem (nm := nmR j) hR1
              obtain ⟨d2, hd2⟩ : ∃ d2, remS d1 (nmR j) = d2 := ⟨_, rfl⟩
              rw [hd2] at hM
              have HF := hide hfd
              have hM1 : remE d1 (nmR j) = 8 := by rw [hM.1, hfd]; rfl
              obtain ⟨_, hM2, hM3, hR2⟩ := hM
              rw [hfd] at hM2 hM3
              replace hM2 : total d2.l = total d1.l - 0 := hM2
              replace hM3 : 0 ≤ total d1.l := hM3
              have hne : ((total d2.l : Int) != (total d1.l : Int)) = false := by simp; omega
              have HRD := hide (show ∀ w5, Lw W (fun k => k < W.heap.size) w5 g d1 → Calls Try.prog 14 #[.pointer (some ⟨g, 0, none⟩), .string (nmR j)] w5 fun e w' => ∃ A c, e = .returned (.tuple #[.slice A 0 c, .bool false]) ∧ Lw W (fun k => k < W.heap.size) w' g d1 from fun w5 L5 => (read_no L5 HF.out (by rw [szR]; omega)).mono fun _ _ ⟨A, c, h1, h2, _⟩ => ⟨A, c, h1, h2⟩)
              have HRM := hide (show ∀ w5, Lw W (fun k => k < W.heap.size) w5 g d1 → Calls Try.prog 22 #[.pointer (some ⟨g, 0, none⟩), .string (nmR j)] w5 (RunP W (fun k => k < W.heap.size) g 8 d2) from fun w5 L5 => rem_run L5 ⟨hM1, hd2⟩ (by rw [szR]; omega))
              have HEND := hide hR2
              have L := hL
              clear hL hR hcut hwhole hzl hlen hs hx hd1 ht0 hq0 ht1 hR1 hfit HP hR2 hM1 hM2 hd2 hfd HF
              generalize nmR j = nm at *
              generalize (it j).A = B at *
              generalize (it j).c = cb at *
              generalize (it j).n = nn at *
              go_wp2_with (first
                | (go_at_call 11; (with_reducible refine (HA.out _ (L.out.below (kept_alloc (kept_refl _) _))).mono ?_); rintro e w5 ⟨rfl, h2⟩; clear L HA; have L := hide h2; clear h2)
                | (go_at_call 24; (with_reducible refine (tot_run L.out).mono ?_); rintro e w4 ⟨rfl, h2⟩; have hcv := HC.out w4; clear L; have L := hide h2; clear h2)
                | (go_at_call 25; (with_reducible refine (roo_run HQ.out L.out).mono ?_); rintro e w4 ⟨rfl, h2⟩; clear L; have L := hide h2; clear h2)
                | (go_at_call 14; (with_reducible refine (HRD.out _ L.out).mono ?_); rintro e w6 ⟨A6, c6, rfl, h2⟩; clear L HRD; have L := hide h2; clear h2)
                | (go_at_call 22; (with_reducible refine (HRM.out _ L.out).mono ?_); rintro e w7 ⟨rfl, h2⟩; clear L HRM; have L := hide h2; clear h2))
              go_roundw
              case rel => exact ⟨j + 1, d2, by omega, by omega, by go_num, L, HEND⟩
              case measure => simp [intOf]; omega
          · have h5b : ((j : Int) % 5 == 4) = false := by simp; omega
            have hzl : (it j).zs.length = (it j).n := hlen
            have hn50 : (it j).n ≤ 100 := by omega
            have hA := rm_app (nm := nmR j) (p := (it j).zs) hR.out (okR j) (by omega) hs.oct
            obtain ⟨d1, hd1⟩ : ∃ d1, appS d (nmR j) (it j).zs = d1 := ⟨_, rfl⟩
            rw [hd1] at hA
            obtain ⟨hx, ht1, hR1⟩ := hA
            have HA := hide (show ∀ w5, Lw W (fun k => k < W.heap.size) w5 g d → Calls Try.prog 11 #[.pointer (some ⟨g, 0, none⟩), .string (nmR j), .slice (it j).A (it j).n (it j).c] w5 (RunP W (fun k => k < W.heap.size) g 0 d1) from fun w5 L5 => app_run L5 (SliceIn.arg hs L5) ⟨hx, hd1⟩ (by rw [szR]; omega) (by have := hR.out.len; omega))
            have ht0 := hR.out.ok.tot
            have hq0 := hR.out.q
            have hqt : total d.l ≤ q := by omega
            have ht2 : total d1.l ≤ total d.l + (it j).n := by omega
            have ht3 : total d.l + (it j).n ≤ total d1.l := by omega
            have hf2 : total d.l + (it j).n ≤ q := by omega
            have HQ := hide hR1.q
            have HC := hide (conv_name j)
            have HEND := hide hR1
            have L := hL
            clear hL hR hcut hwhole hzl hlen hs hx hd1 ht0 hq0 ht1 hR1 hfit HP
            generalize nmR j = nm at *
            generalize (it j).A = B at *
            generalize (it j).c = cb at *
            generalize (it j).n = nn at *
            go_wp2_with (first
              | (go_at_call 11; (with_reducible refine (HA.out _ (L.out.below (kept_alloc (kept_refl _) _))).mono ?_); rintro e w5 ⟨rfl, h2⟩; clear L HA; have L := hide h2; clear h2)
              | (go_at_call 24; (with_reducible refine (tot_run L.out).mono ?_); rintro e w4 ⟨rfl, h2⟩; have hcv := HC.out w4; clear L; have L := hide h2; clear h2)
              | (go_at_call 25; (with_reducible refine (roo_run HQ.out L.out).mono ?_); rintro e w4 ⟨rfl, h2⟩; clear L; have L := hide h2; clear h2))
            go_roundw
            case rel => exact ⟨j + 1, d1, by omega, by omega, by go_num, L, HEND⟩
            case measure => simp [intOf]; omega
        · by_cases h5 : j % 5 = 4
          · have h5b : ((j : Int) % 5 == 4) = true := by simp; omega
            cases hfd : find (nmR j) (appS d (nmR j) (it j).zs).l with
            | some f =>
              have hzl : (it j).zs.length = (it j).n := hlen
              have hn50 : (it j).n ≤ 100 := by omega
              have hA := rm_full (nm := nmR j) (p := (it j).zs) hR.out (okR j) (by omega)
              obtain ⟨d1, hd1⟩ : ∃ d1, appS d (nmR j) (it j).zs = d1 := ⟨_, rfl⟩
              rw [hd1] at hA
              rw [hd1] at hfd
              obtain ⟨hx, hdd⟩ := hA
              have ht1 : total d1.l = total d.l := by rw [hdd]
              have hR1 : Rm d1 q (j + 1) := by rw [hdd]; exact ⟨hR.out.ok, hR.out.q, hR.out.left, hR.out.off, Nat.le_succ_of_le hR.out.len⟩
              have HA := hide (show ∀ w5, Lw W (fun k => k < W.heap.size) w5 g d → Calls Try.prog 11 #[.pointer (some ⟨g, 0, none⟩), .string (nmR j), .slice (it j).A (it j).n (it j).c] w5 (RunP W (fun k => k < W.heap.size) g 7 d1) from fun w5 L5 => app_run L5 (SliceIn.arg hs L5) ⟨hx, hd1⟩ (by rw [szR]; omega) (by have := hR.out.len; omega))
              have ht0 := hR.out.ok.tot
              have hq0 := hR.out.q
              have hqt : total d.l ≤ q := by omega
              have ht2 : total d1.l ≤ total d.l := by omega
              have ht3 : total d.l ≤ total d1.l := by omega
              have hf2 : q < total d.l + (it j).n := by omega
              have HQ := hide hR1.q
              have HC := hide (conv_name j)
              have hM := rm_rem (nm := nmR j) hR1
              obtain ⟨d2, hd2⟩ : ∃ d2, remS d1 (nmR j) = d2 := ⟨_, rfl⟩
              rw [hd2] at hM
              have HF := hide hfd
              have hM1 : remE d1 (nmR j) = 0 := by rw [hM.1, hfd]; rfl
              obtain ⟨_, hM2, hM3, hR2⟩ := hM
              rw [hfd] at hM2 hM3
              replace hM2 : total d2.l = total d1.l - f.dt.length := hM2
              replace hM3 : f.dt.length ≤ total d1.l := hM3
              have hne : ((total d2.l : Int) != (total d1.l : Int) - ((f.dt.length : Nat) : Int)) = false := by simp; omega
              have hfl := flen hR1.ok (find_mem hfd).1
              have HRD := hide (show ∀ w5, Lw W (fun k => k < W.heap.size) w5 g d1 → Calls Try.prog 14 #[.pointer (some ⟨g, 0, none⟩), .string (nmR j)] w5 fun e w' => ∃ A c, e = .returned (.tuple #[.slice A f.dt.length c, .bool true]) ∧ Lw W (fun k => k < W.heap.size) w' g d1 from fun w5 L5 => (read_yes L5 HF.out (by rw [szR]; omega)).mono fun _ _ ⟨A, c, h1, h2, _⟩ => ⟨A, c, h1, h2.drop L5.xs⟩)
              have HRM := hide (show ∀ w5, Lw W (fun k => k < W.heap.size) w5 g d1 → Calls Try.prog 22 #[.pointer (some ⟨g, 0, none⟩), .string (nmR j)] w5 (RunP W (fun k => k < W.heap.size) g 0 d2) from fun w5 L5 => rem_run L5 ⟨hM1, hd2⟩ (by rw [szR]; omega))
              have HEND := hide hR2
              have L := hL
              clear hL hR hcut hwhole hzl hlen hs hx hd1 ht0 hq0 ht1 hR1 hfit HP hdd hR2 hM1 hM2 hd2 hfd HF
              generalize nmR j = nm at *
              generalize (it j).A = B at *
              generalize (it j).c = cb at *
              generalize (it j).n = nn at *
              generalize f.dt.length = fl at *
              go_wp2_with (first
                | (go_at_call 11; (with_reducible refine (HA.out _ (L.out.below (kept_alloc (kept_refl _) _))).mono ?_); rintro e w5 ⟨rfl, h2⟩; clear L HA; have L := hide h2; clear h2)
                | (go_at_call 24; (with_reducible refine (tot_run L.out).mono ?_); rintro e w4 ⟨rfl, h2⟩; have hcv := HC.out w4; clear L; have L := hide h2; clear h2)
                | (go_at_call 25; (with_reducible refine (roo_run HQ.out L.out).mono ?_); rintro e w4 ⟨rfl, h2⟩; clear L; have L := hide h2; clear h2)
                | (go_at_call 14; (with_reducible refine (HRD.out _ L.out).mono ?_); rintro e w6 ⟨A6, c6, rfl, h2⟩; clear L HRD; have L := hide h2; clear h2)
                | (go_at_call 22; (with_reducible refine (HRM.out _ L.out).mono ?_); rintro e w7 ⟨rfl, h2⟩; clear L HRM; have L := hide h2; clear h2))
              go_roundw
              case rel => exact ⟨j + 1, d2, by omega, by omega, by go_num, L, HEND⟩
              case measure => simp [intOf]; omega
            | none =>
              have hzl : (it j).zs.length = (it j).n := hlen
              have hn50 : (it j).n ≤ 100 := by omega
              have hA := rm_full (nm := nmR j) (p := (it j).zs) hR.out (okR j) (by omega)
              obtain ⟨d1, hd1⟩ : ∃ d1, appS d (nmR j) (it j).zs = d1 := ⟨_, rfl⟩
              rw [hd1] at hA
              rw [hd1] at hfd
              obtain ⟨hx, hdd⟩ := hA
              have ht1 : total d1.l = total d.l := by rw [hdd]
              have hR1 : Rm d1 q (j + 1) := by rw [hdd]; exact ⟨hR.out.ok, hR.out.q, hR.out.left, hR.out.off, Nat.le_succ_of_le hR.out.len⟩
              have HA := hide (show ∀ w5, Lw W (fun k => k < W.heap.size) w5 g d → Calls Try.prog 11 #[.pointer (some ⟨g, 0, none⟩), .string (nmR j), .slice (it j).A (it j).n (it j).c] w5 (RunP W (fun k => k < W.heap.size) g 7 d1) from fun w5 L5 => app_run L5 (SliceIn.arg hs L5) ⟨hx, hd1⟩ (by rw [szR]; omega) (by have := hR.out.len; omega))
              have ht0 := hR.out.ok.tot
              have hq0 := hR.out.q
              have hqt : total d.l ≤ q := by omega
              have ht2 : total d1.l ≤ total d.l := by omega
              have ht3 : total d.l ≤ total d1.l := by omega
              have hf2 : q < total d.l + (it j).n := by omega
              have HQ := hide hR1.q
              have HC := hide (conv_name j)
              have hM := rm_rem (nm := nmR j) hR1
              obtain ⟨d2, hd2⟩ : ∃ d2, remS d1 (nmR j) = d2 := ⟨_, rfl⟩
              rw [hd2] at hM
              have HF := hide hfd
              have hM1 : remE d1 (nmR j) = 8 := by rw [hM.1, hfd]; rfl
              obtain ⟨_, hM2, hM3, hR2⟩ := hM
              rw [hfd] at hM2 hM3
              replace hM2 : total d2.l = total d1.l - 0 := hM2
              replace hM3 : 0 ≤ total d1.l := hM3
              have hne : ((total d2.l : Int) != (total d1.l : Int)) = false := by simp; omega
              have HRD := hide (show ∀ w5, Lw W (fun k => k < W.heap.size) w5 g d1 → Calls Try.prog 14 #[.pointer (some ⟨g, 0, none⟩), .string (nmR j)] w5 fun e w' => ∃ A c, e = .returned (.tuple #[.slice A 0 c, .bool false]) ∧ Lw W (fun k => k < W.heap.size) w' g d1 from fun w5 L5 => (read_no L5 HF.out (by rw [szR]; omega)).mono fun _ _ ⟨A, c, h1, h2, _⟩ => ⟨A, c, h1, h2⟩)
              have HRM := hide (show ∀ w5, Lw W (fun k => k < W.heap.size) w5 g d1 → Calls Try.prog 22 #[.pointer (some ⟨g, 0, none⟩), .string (nmR j)] w5 (RunP W (fun k => k < W.heap.size) g 8 d2) from fun w5 L5 => rem_run L5 ⟨hM1, hd2⟩ (by rw [szR]; omega))
              have HEND := hide hR2
              have L := hL
              clear hL hR hcut hwhole hzl hlen hs hx hd1 ht0 hq0 ht1 hR1 hfit HP hdd hR2 hM1 hM2 hd2 hfd HF
              generalize nmR j = nm at *
              generalize (it j).A = B at *
              generalize (it j).c = cb at *
              generalize (it j).n = nn at *
              go_wp2_with (first
                | (go_at_call 11; (with_reducible refine (HA.out _ (L.out.below (kept_alloc (kept_refl _) _))).mono ?_); rintro e w5 ⟨rfl, h2⟩; clear L HA; have L := hide h2; clear h2)
                | (go_at_call 24; (with_reducible refine (tot_run L.out).mono ?_); rintro e w4 ⟨rfl, h2⟩; have hcv := HC.out w4; clear L; have L := hide h2; clear h2)
                | (go_at_call 25; (with_reducible refine (roo_run HQ.out L.out).mono ?_); rintro e w4 ⟨rfl, h2⟩; clear L; have L := hide h2; clear h2)
                | (go_at_call 14; (with_reducible refine (HRD.out _ L.out).mono ?_); rintro e w6 ⟨A6, c6, rfl, h2⟩; clear L HRD; have L := hide h2; clear h2)
                | (go_at_call 22; (with_reducible refine (HRM.out _ L.out).mono ?_); rintro e w7 ⟨rfl, h2⟩; clear L HRM; have L := hide h2; clear h2))
              go_roundw
              case rel => exact ⟨j + 1, d2, by omega, by omega, by go_num, L, HEND⟩
              case measure => simp [intOf]; omega
          · have h5b : ((j : Int) % 5 == 4) = false := by simp; omega
            have hzl : (it j).zs.length = (it j).n := hlen
            have hn50 : (it j).n ≤ 100 := by omega
            have hA := rm_full (nm := nmR j) (p := (it j).zs) hR.out (okR j) (by omega)
            obtain ⟨d1, hd1⟩ : ∃ d1, appS d (nmR j) (it j).zs = d1 := ⟨_, rfl⟩
            rw [hd1] at hA
            obtain ⟨hx, hdd⟩ := hA
            have ht1 : total d1.l = total d.l := by rw [hdd]
            have hR1 : Rm d1 q (j + 1) := by rw [hdd]; exact ⟨hR.out.ok, hR.out.q, hR.out.left, hR.out.off, Nat.le_succ_of_le hR.out.len⟩
            have HA := hide (show ∀ w5, Lw W (fun k => k < W.heap.size) w5 g d → Calls Try.prog 11 #[.pointer (some ⟨g, 0, none⟩), .string (nmR j), .slice (it j).A (it j).n (it j).c] w5 (RunP W (fun k => k < W.heap.size) g 7 d1) from fun w5 L5 => app_run L5 (SliceIn.arg hs L5) ⟨hx, hd1⟩ (by rw [szR]; omega) (by have := hR.out.len; omega))
            have ht0 := hR.out.ok.tot
            have hq0 := hR.out.q
            have hqt : total d.l ≤ q := by omega
            have ht2 : total d1.l ≤ total d.l := by omega
            have ht3 : total d.l ≤ total d1.l := by omega
            have hf2 : q < total d.l + (it j).n := by omega
            have HQ := hide hR1.q
            have HC := hide (conv_name j)
            have HEND := hide hR1
            have L := hL
            clear hL hR hcut hwhole hzl hlen hs hx hd1 ht0 hq0 ht1 hR1 hfit HP hdd
            generalize nmR j = nm at *
            generalize (it j).A = B at *
            generalize (it j).c = cb at *
            generalize (it j).n = nn at *
            go_wp2_with (first
              | (go_at_call 11; (with_reducible refine (HA.out _ (L.out.below (kept_alloc (kept_refl _) _))).mono ?_); rintro e w5 ⟨rfl, h2⟩; clear L HA; have L := hide h2; clear h2)
              | (go_at_call 24; (with_reducible refine (tot_run L.out).mono ?_); rintro e w4 ⟨rfl, h2⟩; have hcv := HC.out w4; clear L; have L := hide h2; clear h2)
              | (go_at_call 25; (with_reducible refine (roo_run HQ.out L.out).mono ?_); rintro e w4 ⟨rfl, h2⟩; clear L; have L := hide h2; clear h2))
            go_roundw
            case rel => exact ⟨j + 1, d1, by omega, by omega, by go_num, L, HEND⟩
            case measure => simp [intOf]; omega
    · clear hR HP
      by_cases hjm : j < m
      · have hj30' : 30 ≤ j := by omega
        clear hlt
        go_wp2_with (go_at_call 3; (with_reducible refine (run_run hL.out).mono ?_); rintro e w9 ⟨rfl, hbw⟩)
        go_ret
        exact ⟨rfl, hbw⟩
      · clear hlt
        go_wp2_with (go_at_call 3; (with_reducible refine (run_run hL.out).mono ?_); rintro e w9 ⟨rfl, hbw⟩)
        go_ret
        exact ⟨rfl, hbw⟩
set_option maxRecDepth 100000 in
theorem lifted (os : Os) (started : os.Started) (H : Type) (enc : TypeId × Value → H) :
    ReturnsInHanded {} Try.checked os 7 .any (Rows.diskRoomSpec.pre6 enc Try.prog Try.f7 Rows.diskRoomRow.domain false) (Rows.diskRoomSpec.post enc Try.prog Try.f7 false true false false) := by
  refine returnsInHanded_of_change_sized (C := Try.checked) own started (by kernel_rfl) Try.func7
    (ChangeSpec.witness6 (enc := enc) (C := Try.checked) false ⟨#[], #[.int .i64 0, .slice none 0 0], []⟩ 8 (by kernel_rfl) (by kernel_rfl) (by kernel_rfl) (by kernel_rfl)) ?_
  intro W base args ds gs before hval0 hW _ hsz0 _
  have hval : ∀ (j : Nat) t v, Try.f7.params[j]? = some t → args[j]? = some v → Value.okWide Try.prog W .any base t v := hval0
  have hW' := hW
  obtain ⟨p, q, hA0, hV, rfl, _, _⟩ := hW
  have hA : DataW.TrodAll enc Try.prog W 0 (fun _ => true) true Try.f7.params.toList args.toList ds p := hA0
  have hsz : (DataW.weightsEach Try.prog (Try.f7.params.toList ++ Rows.diskRoomSpec.plain.varTypes Try.prog) (ds ++ gs)).all (· ≤ reachBytes) = true := hsz0
  rw [Try.params7] at hA hval hsz
  obtain ⟨v0, vs0, d0, ds0, p0, q0, hargs, rfl, rfl, h0, r0⟩ := trodAll_cons hA
  obtain ⟨v1, vs1, d1, ds1, p1, q1, rfl, rfl, rfl, h1, r1⟩ := trodAll_cons r0
  obtain ⟨rfl, rfl, rfl⟩ := trodAll_nil r1
  obtain rfl : args = #[v0, v1] := by cases args; simp_all
  obtain ⟨rfl, rfl⟩ := trodVars_none hV
  obtain ⟨a0, rfl, rfl, rfl, w0⟩ := open_int Try.underlying3 (hval 0 3 v0 rfl rfl) h0
  have k1 := h1
  have lt1 : ∀ x ∈ p1, x.block < W.heap.size := by obtain ⟨m, hm⟩ := k1; exact DataW.trod_lt m _ _ _ hm
  obtain ⟨A1, n1, c1, rfl⟩ := okWide_slice Try.underlying47 (hval 1 47 v1 rfl rfl)
  obtain ⟨z1, s1⟩ := parts_in (j := 1) h1 hsz rfl rfl
  clear hA0 hval0
  refine (walk a0 A1 n1 c1 z1 W (bounds_i64 w0) s1).mono fun e W' ⟨he, bel⟩ => ?_
  subst he
  exact ⟨_, rfl, _, _, _, [], _, [], hW', trodAll_mk1 (shut_bool Try.underlying4 _), (trodAll_cons_mk (shut_int Try.underlying3 w0) (trodAll_cons_mk (Below.trod laidOut (by kernel_rfl) (of_decide_eq_true (by kernel_rfl)) k1 bel lt1) trodAll_mk0)), rfl, bel.frame _, fun h => by cases h⟩
theorem over : Rows.diskRoomRow.holds Try.pinned (OpenSpec.ofChange Rows.diskRoomSpec) :=
  OpenClaim.holds_of_wide 7 Try.f7 rfl rfl rfl rfl rfl rfl rfl ⟨rfl, rfl, rfl, rfl, rfl⟩ rfl rfl rfl rfl rfl (by kernel_rfl) Try.func7 (by kernel_rfl)
    (of_decide_eq_true (by kernel_rfl)) (by unfold Func.isWrapper; first | (rw [if_pos (by decide +kernel)]; kernel_rfl) | (rw [if_neg (by decide +kernel)]; exact ⟨rfl, rfl⟩))
    (fun os started H enc _ => lifted os started H enc)
theorem proved : Rows.DiskRoomSaid := over
end Go.Proofs.Ytllgjbkmemheoaa.diskRoom
