/- sort's pdqsort_func over instances. Conditions: the row lies in memory; places are within it. -/
import Derived.Test.YtiaegloipnhhdaaWt
import Derived.Test.YtiaegloipnhhdaaWu
import Derived.Test.YtiaegloipnhhdaaWv
import Derived.Test.YtiaegloipnhhdaaSlay
import Derived.LoopTactic
import Derived.Deep.LoopGhost
import Derived.Deep.CutBlock
import Derived.Sort.Walk13a
import Derived.Sort.AssemblyPlain
namespace Go.Proofs.Ytiaegloipnhhdaa
set_option maxRecDepth 100000
open Go.RowKit Go.Maps Go.Shelf Go.Sort Go.Lib
section
variable {W w : World} {blk Bs n : Nat} {d : Array (Int × Int)} {sb : Array Value}
theorem ltP_swo : SWO ltP where
  irrefl := ltP_irrefl
  trans _ _ _ h k := ltP_trans h k
  ntrans x y z h1 h2 := by unfold ltP at *; simp at *; omega
theorem hintV_two {h : Hint} (e : hintV h = 2) : h = .decreasing := by cases h <;> simp [hintV] at e ⊢
theorem eighth' {x y p q : Nat} (h1 : q ≤ p) (h2 : y ≤ x) : decide (((x : Int) - (y : Int)) / 8 ≤ (p : Int) - (q : Int)) = decide (p - q ≥ (x - y) / 8) :=
  decide_eq_decide.2 ⟨fun h => by omega, fun h => by omega⟩
theorem sw_world (S : Sw W blk d w) (hl : blk < W.heap.size) (m : Nat) (os : Array Obj) {d' : Array (Int × Int)} (hd : d'.size = d.size) :
    Sw W blk d' (sortWorldK ic 2 w blk 0 m d' os) ∧ Kq (fun k => k = blk) w (sortWorldK ic 2 w blk 0 m d' os) := by
  have hlw := Nat.lt_of_lt_of_le hl S.kq.size
  have k : Kq (fun k => k = blk) w (sortWorldK ic 2 w blk 0 m d' os) := by
    refine ⟨rfl, rfl, rfl, ?_, fun b hb hn => ?_⟩
    · unfold sortWorldK grow putRowK putRow mapBlock Sort.ahead
      simp
    · have hn : b ≠ blk := hn
      unfold sortWorldK grow putRowK putRow mapBlock Sort.ahead
      simp only [Array.getElem?_append, Array.size_modify, if_pos hb]
      rw [Array.getElem?_modify, if_neg (fun e => hn e.symm)]
  have sh : Shp blk w (sortWorldK ic 2 w blk 0 m d' os) := by
    have h1 := Shp.mapped (Sort.ahead w m) blk (putCells id 0 (flatK ic 2 d')) (fun c => by simp [putCells])
    have h2 : (sortWorldK ic 2 w blk 0 m d' os).heap[blk]? = (mapBlock (Sort.ahead w m) blk (putCells id 0 (flatK ic 2 d'))).heap[blk]? := by
      unfold sortWorldK putRowK putRow
      exact heap_grow_old _ _ (by simpa [mapBlock, Sort.ahead] using hlw)
    exact (show Shp blk w (mapBlock (Sort.ahead w m) blk (putCells id 0 (flatK ic 2 d'))) from h1).trans (Shp.eq h2)
  exact ⟨⟨holdsK_sortWorldK ic 2 w blk 0 m d d' os hlw S.h hd, S.kq.trans k (fun _ _ e => e), S.sh.trans sh⟩, k⟩
theorem prev_any (C : Cx W blk Bs n sb) (S : Sw W blk d w) (hd : d.size = n) {a b : Nat} (hab : a ≤ b) (hbn : b ≤ n) :
    Calls Try.prog 73 #[.agg #[.func (.func 32) #[] #[.pointer (some ⟨Bs, 0, none⟩)], .func (.func 66) #[] sb], .int .i64 a, .int .i64 b] w fun e w' => e = .returned (.tuple #[]) ∧ Sw W blk (reverseRange d a b) w' ∧ Kq (fun k => k = blk) w w' := by
  have hn := C.hn
  have h := Any.reverseRange_func_cells_w (ρ := Try.laySlice_ren) { Try.laySlice with } ic 2 ic_len (.func 32) #[] #[.pointer (some ⟨Bs, 0, none⟩)] 66 sb blk 0 a b d w (by rw [hd]; exact C.sw) S.h (Nat.lt_of_lt_of_le C.hb S.kq.size) hab (by omega) (by omega)
  refine h.mono ?_
  rintro e w' ⟨rfl, m, os, rfl⟩
  exact ⟨rfl, sw_world S C.hb m os (reverseRange_holds d a b hab (by omega)).1⟩
theorem pbreak_any (C : Cx W blk Bs n sb) (S : Sw W blk d w) (hd : d.size = n) {a b : Nat} (hab : a ≤ b) (hbn : b ≤ n) :
    Calls Try.prog 71 #[.agg #[.func (.func 32) #[] #[.pointer (some ⟨Bs, 0, none⟩)], .func (.func 66) #[] sb], .int .i64 a, .int .i64 b] w fun e w' => e = .returned (.tuple #[]) ∧ Sw W blk (breakPatterns d a b) w' ∧ Kq (fun k => k = blk) w w' := by
  have hn := C.hn
  have h := Any.breakPatterns_func_cells_w (ρ := Try.laySlice_ren) { Try.laySlice with } ic 2 ic_len (.func 32) #[] #[.pointer (some ⟨Bs, 0, none⟩)] 66 sb blk 0 a b d w (by rw [hd]; exact C.sw) S.h (Nat.lt_of_lt_of_le C.hb S.kq.size) hab (by omega) (by omega)
  refine h.mono ?_
  rintro e w' ⟨rfl, m, os, rfl⟩
  exact ⟨rfl, sw_world S C.hb m os (breakPatterns_holds d a b hab (by omega)).1⟩
set_option maxHeartbeats 64000000 in
theorem ppdq_any (C : Cx W blk Bs n sb) : ∀ (N : Nat) (w : World) (d : Array (Int × Int)) (a b limit : Nat), b - a < N → Sw W blk d w → d.size = n → a ≤ b → b ≤ n → limit < 4611686018427387904 → Go.Sort.Below ltP a b d →
    Calls Try.prog 50 #[.agg #[.func (.func 32) #[] #[.pointer (some ⟨Bs, 0, none⟩)], .func (.func 66) #[] sb], .int .i64 a, .int .i64 b, .int .i64 limit] w fun e w' => e = .returned (.tuple #[]) ∧ Sw W blk (pdq ltP d a b limit true true) w' ∧ Kq (fun k => k = blk) w w' := by
  intro N
  induction N with
  | zero => intro _ _ _ _ _ h; exact absurd h (Nat.not_lt_zero _)
  | succ N ih =>
    intro w d a b limit hN S hd hab hbn hlimit hBel0
    have IH := hide ih
    have HC := hide C
    have HBE := hide hBel0
    have HD0 := hide hd
    have HS := hide (show Sl W w (w.alloc (.cells #[.func (.func 32) #[] #[.pointer (some ⟨Bs, 0, none⟩)], .func (.func 66) #[] sb] 92)) blk d w.heap.size Bs sb from ⟨S.below (kept_alloc (kept_refl w) _) C.hb, .of_below (kept_alloc (kept_refl w) _), Row.new w _ _⟩)
    have hbd : w.heap.size ≠ blk := by have := C.hb; have := S.kq.size; omega
    have hn := C.hn
    clear S C ih hBel0 hd
    go_enter Try.func50, Try.ntmps50
    go_upto_region 1 with (fail)
    generalize w.alloc (.cells #[.func (.func 32) #[] #[.pointer (some ⟨Bs, 0, none⟩)], .func (.func 66) #[] sb] 92) = w1 at HS ⊢
    generalize w.heap.size = bd at HS hbd ⊢
    obtain ⟨P, hP⟩ : ∃ P, pdq ltP d a b limit true true = P := ⟨_, rfl⟩
    have HP := hide hP
    clear hP
    go_wp2
    go_loopg [1, 2, 3, 8, 9] (b - a) (fun k s1 s2 s3 s8 s9 wr => ∃ (a' b' lim : Nat) (wb wp : Bool) (dk : Array (Int × Int)), s1 = .int .i64 a' ∧ s2 = .int .i64 b' ∧ s3 = .int .i64 lim ∧ s8 = .bool wb ∧ s9 = .bool wp ∧
      a' ≤ b' ∧ b' ≤ n ∧ b' - a' ≤ k ∧ k ≤ b - a ∧ lim ≤ limit ∧ Hid (dk.size = n) ∧ Hid (Go.Sort.Below ltP a' b' dk) ∧ Hid (Sl W w wr blk dk bd Bs sb) ∧ Hid (pdq ltP dk a' b' lim wb wp = P))
    case atStart => exact ⟨a, b, limit, true, true, d, rfl, rfl, rfl, rfl, rfl, hab, hbn, Nat.le_refl _, Nat.le_refl _, Nat.le_refl _, HD0, HBE, HS, HP⟩
    case round =>
      clear HS HBE HD0
      obtain ⟨a', b', lim, wb, wp, dk, rfl, rfl, rfl, rfl, rfl, hab', hb', hk, hkN, hlim, HD, HBE, HT, HO⟩ := hrel
      have x0 := HT.out.bx.cell 0
      have x1 := HT.out.bx.cell 1
      by_cases h12 : b' - a' ≤ 12
      · have h12z : (b' : Int) - (a' : Int) ≤ 12 := by omega
        have HCC := hide (pins_any HC.out HT.out.sw HD.out hab' hb')
        go_wp2_with (go_at_call 69; (with_reducible refine HCC.out.mono ?_); rintro e w9 ⟨rfl, hs9, hk9⟩)
        (try simp only [Exit.inBlock, Exit.then]); refine bodyPost_ret (results_none rfl _ _ _) rfl ?_
        refine ⟨rfl, ?_, HT.out.kq.trans hk9 (fun _ _ e => e)⟩
        rw [HP.out, ← HO.out, pdq_small h12]
        exact hs9
      · have h12z : ¬ ((b' : Int) - (a' : Int) ≤ 12) := by omega
        by_cases hl0 : lim = 0
        · subst hl0
          have HCC := hide (pheap_any HC.out HT.out.sw HD.out (show a' < b' by omega) hb')
          try rw [show ((0 : Nat) : Int) = 0 from rfl]
          go_wp2_with (go_at_call 70; (with_reducible refine HCC.out.mono ?_); rintro e w9 ⟨rfl, hs9, hk9⟩)
          (try simp only [Exit.inBlock, Exit.then]); refine bodyPost_ret (results_none rfl _ _ _) rfl ?_
          refine ⟨rfl, ?_, HT.out.kq.trans hk9 (fun _ _ e => e)⟩
          rw [HP.out, ← HO.out, pdq_heap h12 rfl]
          exact hs9
        · have hl0z : ¬ ((lim : Int) = 0) := by omega
          obtain ⟨s1, B1, hc1, s2, B2, hpv, s3, B3⟩ := rd_facts (lt := ltP) (limit := lim) (wb := wb) (wp := wp) ltP_swo partialInsertionSort_holds reverseRange_holds (show a' < b' by omega) (show b' ≤ dk.size by rw [HD.out]; exact hb') HBE.out
          rw [HD.out] at s1 s2 s3
          replace s1 := hide s1
          replace s2 := hide s2
          replace s3 := hide s3
          replace B3 := hide B3
          clear B1 B2
          go_upto_if 35 with fail
          go_cut [3] from 19 (fun s3 wc => s3 = .int .i64 (rd ltP dk a' b' lim wb wp).lim ∧ Hid (Sl W w wc blk (rd ltP dk a' b' lim wb wp).d1 bd Bs sb))
          case first =>
            cases wb
            · have HCC := hide (pbreak_any HC.out HT.out.sw HD.out hab' hb')
              go_wp2_with (go_at_call 71; (with_reducible refine HCC.out.mono ?_); rintro e w9 ⟨rfl, hs9, hk9⟩; replace HT := hide (HT.out.turn hs9 hk9 hbd); clear hs9 hk9 x0 x1)
              go_meet
              case rel =>
                refine ⟨?_, HT⟩
                show Value.int .i64 ((lim : Int) - 1) = Value.int .i64 ((lim - 1 : Nat) : Int)
                congr 1
                omega
            · go_wp2_with fail
              go_meet
              case rel => exact ⟨rfl, HT⟩
          case rest =>
            clear HT x0 x1
            obtain ⟨rfl, HT⟩ := hcut
            have x0 := HT.out.bx.cell 0
            have x1 := HT.out.bx.cell 1
            have HCC := hide (ppivot_any HC.out HT.out.sw s1.out (show a' + 8 ≤ b' by omega) hb')
            rw [← rd_c] at HCC
            go_upto_if 50 with (go_at_call 72; (with_reducible refine HCC.out.mono ?_); rintro e w9 ⟨rfl, hb9⟩; replace HT := hide (HT.out.below hb9 HC.out.hb); clear hb9 x0 x1)
            clear HCC
            have x0 := HT.out.bx.cell 0
            have x1 := HT.out.bx.cell 1
            go_cut [11, 12] from 19 (fun s11 s12 wc => s11 = .int .i64 (rd ltP dk a' b' lim wb wp).pivot ∧ s12 = .int .i64 (hintV (rd ltP dk a' b' lim wb wp).hint) ∧ Hid (Sl W w wc blk (rd ltP dk a' b' lim wb wp).d2 bd Bs sb))
            case first =>
              by_cases hh : (rd ltP dk a' b' lim wb wp).c.2 = .decreasing
              · have hcode : hintV (rd ltP dk a' b' lim wb wp).c.2 = 2 := by rw [hh]; rfl
                obtain ⟨e2, epv, eht⟩ := rd_dec hh
                have HCC := hide (prev_any HC.out HT.out.sw s1.out hab' hb')
                rw [← e2] at HCC
                go_wp2_with (go_at_call 73; (with_reducible refine HCC.out.mono ?_); rintro e w9 ⟨rfl, hs9, hk9⟩; replace HT := hide (HT.out.turn hs9 hk9 hbd); clear hs9 hk9 x0 x1)
                go_meet
                case rel =>
                  refine ⟨?_, by rw [eht]; rfl, HT⟩
                  rw [epv]
                  congr 1
                  omega
              · have hcode : ¬ (hintV (rd ltP dk a' b' lim wb wp).c.2 = 2) := fun h => hh (hintV_two h)
                obtain ⟨e2, epv, eht⟩ := rd_not hh
                go_wp2_with fail
                go_meet
                case rel => exact ⟨by rw [epv], by rw [eht], by rw [e2]; exact HT⟩
            case rest =>
              clear HT x0 x1
              obtain ⟨rfl, rfl, HT⟩ := hcut
              go_upto_region 16 with fail
              go_cut [12, 68] from 19 (fun s12 s68 wx => s12 = .int .i64 (hintV (rd ltP dk a' b' lim wb wp).hint) ∧ s68 = .bool (wb && wp && decide ((rd ltP dk a' b' lim wb wp).hint = .increasing)) ∧ wx = wc)
              case first =>
                cases wb <;> cases wp <;> cases hh3 : (rd ltP dk a' b' lim _ _).hint <;>
                  (have hcode3 := congrArg hintV hh3
                   simp only [hintV] at hcode3
                   go_wp2_with fail
                   go_meet
                   exact ⟨by simp [hh3, hintV], by simp [hh3, hintV], rfl⟩)
              case rest =>
                obtain ⟨rfl, rfl, rfl⟩ := hcut
                go_upto_if 68 with fail
                have x0 := HT.out.bx.cell 0
                have x1 := HT.out.bx.cell 1
                go_cut [] from 19 (fun wx => (rd ltP dk a' b' lim wb wp).pi.2 = false ∧ Hid (Sl W w wx blk (rd ltP dk a' b' lim wb wp).pi.1 bd Bs sb))
                case first =>
                  cases h68 : (wb && wp && decide ((rd ltP dk a' b' lim wb wp).hint = .increasing))
                  · have epi := rd_pi_no h68
                    go_wp2_with fail
                    go_meet
                    case rel => exact ⟨by rw [epi], by rw [epi]; exact HT⟩
                  · have epi := rd_pi_yes h68
                    have HCC := hide (ppart_any HC.out HT.out.sw s2.out (show a' < b' by omega) hb')
                    rw [← epi] at HCC
                    cases hp2 : (rd ltP dk a' b' lim wb wp).pi.2
                    · rw [hp2] at HCC
                      go_wp2_with (go_at_call 74; (with_reducible refine HCC.out.mono ?_); rintro e w9 ⟨rfl, hs9, hk9⟩; replace HT := hide (HT.out.turn hs9 hk9 hbd); clear hs9 hk9 x0 x1)
                      go_meet
                      case rel => exact ⟨hp2, HT⟩
                    · rw [hp2] at HCC
                      go_wp2_with (go_at_call 74; (with_reducible refine HCC.out.mono ?_); rintro e w9 ⟨rfl, hs9, hk9⟩; replace HT := hide (HT.out.turn hs9 hk9 hbd); clear hs9 hk9 x0 x1)
                      (try simp only [Exit.inBlock, Exit.then]); refine bodyPost_ret (results_none rfl _ _ _) rfl ?_
                      refine ⟨rfl, ?_, HT.out.kq⟩
                      rw [HP.out, ← HO.out, pdq_done h12 hl0 hp2]
                      exact HT.out.sw
                case rest =>
                  clear HT x0 x1
                  obtain ⟨hp2, HT⟩ := hcut
                  have x0 := HT.out.bx.cell 0
                  have x1 := HT.out.bx.cell 1
                  go_upto_region 18 with fail
                  go_cut [83] from 19 (fun s83 wx => s83 = .bool (decide (a' > 0) && !ltP (rd ltP dk a' b' lim wb wp).pi.1[a' - 1]! (rd ltP dk a' b' lim wb wp).pi.1[(rd ltP dk a' b' lim wb wp).pivot]!) ∧ Hid (Sl W w wx blk (rd ltP dk a' b' lim wb wp).pi.1 bd Bs sb))
                  case first =>
                    rcases Nat.eq_zero_or_pos a' with ha0 | ha0
                    · have ha0z : decide ((a' : Int) > 0) = false := decide_eq_false (by omega)
                      go_wp2_with fail
                      go_meet
                      case rel => exact ⟨by simp [ha0], HT⟩
                    · have ha0z : (a' : Int) > 0 := by omega
                      have hl := less_any HC.out HT.out.sw s3.out (i := a' - 1) (j := (rd ltP dk a' b' lim wb wp).pivot) (by omega) (by omega)
                      rw [show ((a' - 1 : Nat) : Int) = (a' : Int) - 1 by omega] at hl
                      cases hlv : ltP (rd ltP dk a' b' lim wb wp).pi.1[a' - 1]! (rd ltP dk a' b' lim wb wp).pi.1[(rd ltP dk a' b' lim wb wp).pivot]! with
                      | true =>
                        rw [hlv] at hl
                        have HLL := hide hl
                        clear hl
                        go_wp2_with (go_at_call 32; (with_reducible refine HLL.out.mono ?_); rintro e w9 ⟨rfl, hb9⟩; replace HT := hide (HT.out.below hb9 HC.out.hb); clear hb9 x0 x1)
                        go_meet
                        exact ⟨by simp [ha0, hlv], HT⟩
                      | false =>
                        rw [hlv] at hl
                        have HLL := hide hl
                        clear hl
                        go_wp2_with (go_at_call 32; (with_reducible refine HLL.out.mono ?_); rintro e w9 ⟨rfl, hb9⟩; replace HT := hide (HT.out.below hb9 HC.out.hb); clear hb9 x0 x1)
                        go_meet
                        exact ⟨by simp [ha0, hlv], HT⟩
                  case rest =>
                    clear HT x0 x1
                    obtain ⟨rfl, HT⟩ := hcut
                    have x0 := HT.out.bx.cell 0
                    have x1 := HT.out.bx.cell 1
                    cases h87 : (decide (a' > 0) && !ltP (rd ltP dk a' b' lim wb wp).pi.1[a' - 1]! (rd ltP dk a' b' lim wb wp).pi.1[(rd ltP dk a' b' lim wb wp).pivot]!)
                    · obtain ⟨mid, ap, d4, hx⟩ : ∃ mid ap d4, partition ltP (rd ltP dk a' b' lim wb wp).pi.1 a' b' (rd ltP dk a' b' lim wb wp).pivot = (mid, ap, d4) := ⟨(partition ltP (rd ltP dk a' b' lim wb wp).pi.1 a' b' (rd ltP dk a' b' lim wb wp).pivot).1, (partition ltP (rd ltP dk a' b' lim wb wp).pi.1 a' b' (rd ltP dk a' b' lim wb wp).pivot).2.1, (partition ltP (rd ltP dk a' b' lim wb wp).pi.1 a' b' (rd ltP dk a' b' lim wb wp).pivot).2.2, rfl⟩
                      obtain ⟨r1, r2, r3, r4, r5, r6, r7⟩ := round_part ltP_swo (partition_holds ltP) hpv.1 hpv.2 (show b' ≤ (rd ltP dk a' b' lim wb wp).pi.1.size by rw [s3.out]; exact hb') B3.out hx
                      have HCC := hide (ppartition_any HC.out HT.out.sw s3.out (show a' + 2 ≤ b' by omega) hb' (show (rd ltP dk a' b' lim wb wp).pivot < n by omega))
                      rw [hx] at HCC
                      have X := hide hx
                      have r6 := hide r6
                      have r7 := hide r7
                      have r4 := hide r4
                      have r5 := hide r5
                      have hs4 := hide (r3.trans s3.out)
                      clear hx r3
                      go_upto_if 109 with (go_at_call 76; (with_reducible refine HCC.out.mono ?_); rintro e w9 ⟨rfl, hs9, hk9⟩; replace HT := hide (HT.out.turn hs9 hk9 hbd); clear hs9 hk9 x0 x1)
                      clear HCC
                      have x0 := HT.out.bx.cell 0
                      have x1 := HT.out.bx.cell 1
                      by_cases h4 : mid - a' < b' - mid
                      · have h4z : (mid : Int) - (a' : Int) < (b' : Int) - (mid : Int) := by omega
                        have HCC := hide (IH.out w9 d4 a' mid (rd ltP dk a' b' lim wb wp).lim (by omega) HT.out.sw hs4.out (by omega) (by omega) (Nat.lt_of_le_of_lt (Nat.le_trans rd_lim_le hlim) hlimit) r4.out)
                        obtain ⟨pL, sL⟩ := pdq_sorts ltP ltP_swo d4 a' mid (rd ltP dk a' b' lim wb wp).lim true true (by omega) (by rw [hs4.out]; omega) r4.out
                        have HPL := hide (⟨pL.1, (r6.out _ pL sL).1⟩ : (pdq ltP d4 a' mid (rd ltP dk a' b' lim wb wp).lim true true).size = d4.size ∧ Go.Sort.Below ltP (mid + 1) b' (pdq ltP d4 a' mid (rd ltP dk a' b' lim wb wp).lim true true))
                        clear pL sL
                        go_wp2_with (go_at_call 50; (with_reducible refine HCC.out.mono ?_); rintro e w9 ⟨rfl, hs9, hk9⟩; replace HT := hide (HT.out.turn hs9 hk9 hbd); clear hs9 hk9 x0 x1)
                        go_roundg (b' - (mid + 1))
                        case measure => omega
                        case rel =>
                          refine ⟨mid + 1, b', (rd ltP dk a' b' lim wb wp).lim, decide (mid - a' ≥ (b' - a') / 8), ap, pdq ltP d4 a' mid (rd ltP dk a' b' lim wb wp).lim true true, by simp, rfl, rfl, ?_, rfl, by omega, by omega, Nat.le_refl _, by omega, Nat.le_trans rd_lim_le hlim, hide (HPL.out.1.trans hs4.out), hide HPL.out.2, HT, ?_⟩
                          · exact congrArg Value.bool (eighth' (by omega) (by omega))
                          · have hx := X.out
                            exact hide (by rw [← HO.out, pdq_left h12 hl0 hp2 h87 (by rw [hx]; exact ⟨r1, r2⟩) (by rw [hx]; exact h4), hx])
                      · have h4z : ¬ ((mid : Int) - (a' : Int) < (b' : Int) - (mid : Int)) := by omega
                        have hih := IH.out w9 d4 (mid + 1) b' (rd ltP dk a' b' lim wb wp).lim (by omega) HT.out.sw hs4.out (by omega) (by omega) (Nat.lt_of_le_of_lt (Nat.le_trans rd_lim_le hlim) hlimit) r5.out
                        rw [show ((mid + 1 : Nat) : Int) = (mid : Int) + 1 by omega] at hih
                        have HCC := hide hih
                        clear hih
                        obtain ⟨pL, sL⟩ := pdq_sorts ltP ltP_swo d4 (mid + 1) b' (rd ltP dk a' b' lim wb wp).lim true true (by omega) (by rw [hs4.out]; omega) r5.out
                        have HPL := hide (⟨pL.1, (r7.out _ pL sL).1⟩ : (pdq ltP d4 (mid + 1) b' (rd ltP dk a' b' lim wb wp).lim true true).size = d4.size ∧ Go.Sort.Below ltP a' mid (pdq ltP d4 (mid + 1) b' (rd ltP dk a' b' lim wb wp).lim true true))
                        clear pL sL
                        go_wp2_with (go_at_call 50; (with_reducible refine HCC.out.mono ?_); rintro e w9 ⟨rfl, hs9, hk9⟩; replace HT := hide (HT.out.turn hs9 hk9 hbd); clear hs9 hk9 x0 x1)
                        go_roundg (mid - a')
                        case measure => omega
                        case rel =>
                          refine ⟨a', mid, (rd ltP dk a' b' lim wb wp).lim, decide (b' - mid ≥ (b' - a') / 8), ap, pdq ltP d4 (mid + 1) b' (rd ltP dk a' b' lim wb wp).lim true true, rfl, rfl, rfl, ?_, rfl, by omega, by omega, Nat.le_refl _, by omega, Nat.le_trans rd_lim_le hlim, hide (HPL.out.1.trans hs4.out), hide HPL.out.2, HT, ?_⟩
                          · exact congrArg Value.bool (eighth' (by omega) (by omega))
                          · have hx := X.out
                            exact hide (by rw [← HO.out, pdq_right h12 hl0 hp2 h87 (by rw [hx]; exact ⟨r1, r2⟩) (by rw [hx]; exact h4), hx])
                    · have h87' := h87
                      simp only [Bool.and_eq_true, decide_eq_true_eq, Bool.not_eq_true'] at h87'
                      obtain ⟨mid, d4, hx⟩ : ∃ mid d4, partitionEqual ltP (rd ltP dk a' b' lim wb wp).pi.1 a' b' (rd ltP dk a' b' lim wb wp).pivot = (mid, d4) := ⟨(partitionEqual ltP (rd ltP dk a' b' lim wb wp).pi.1 a' b' (rd ltP dk a' b' lim wb wp).pivot).1, (partitionEqual ltP (rd ltP dk a' b' lim wb wp).pi.1 a' b' (rd ltP dk a' b' lim wb wp).pivot).2, rfl⟩
                      obtain ⟨r1, r2, r3, r4, _⟩ := round_eq ltP_swo (partitionEqual_holds ltP) h87'.1 hpv.1 hpv.2 (show b' ≤ (rd ltP dk a' b' lim wb wp).pi.1.size by rw [s3.out]; exact hb') B3.out h87'.2 hx
                      have HCC := hide (pparteq_any HC.out HT.out.sw s3.out (show a' + 1 ≤ b' by omega) hb' (show (rd ltP dk a' b' lim wb wp).pivot < n by omega))
                      rw [hx] at HCC
                      have X := hide hx
                      have r4 := hide r4
                      have hs4 := hide (r3.trans s3.out)
                      clear hx r3
                      clear h87'
                      go_wp2_with (go_at_call 75; (with_reducible refine HCC.out.mono ?_); rintro e w9 ⟨rfl, hs9, hk9⟩; replace HT := hide (HT.out.turn hs9 hk9 hbd); clear hs9 hk9 x0 x1)
                      go_roundg (b' - mid)
                      case measure => omega
                      case rel =>
                        have hx := X.out
                        exact ⟨mid, b', (rd ltP dk a' b' lim wb wp).lim, wb, wp, d4, rfl, rfl, rfl, rfl, rfl, r2, hb', Nat.le_refl _, by omega, Nat.le_trans rd_lim_le hlim, hs4, r4, HT, hide (by rw [← HO.out, pdq_eq h12 hl0 hp2 h87 (by rw [hx]; exact ⟨r1, r2⟩), hx])⟩
end
end Go.Proofs.Ytiaegloipnhhdaa
/- sort.Slice as the program's List calls it, at whatever length. Conditions: the length has room. -/
namespace Go.Proofs.Ytiaegloipnhhdaa
set_option maxRecDepth 100000
open Go.RowKit Go.Maps Go.Shelf Go.Sort Go.Lib
theorem cellsP_at : ∀ (l : List (Int × Int)) (t : Nat), t < l.length * 2 → (cellsP l)[t]? = some ((ic (l.toArray[t / 2]!))[t % 2]!)
  | [], t, h => by simp at h
  | x :: r, 0, _ => by simp [cellsP, ic]
  | x :: r, 1, _ => by simp [cellsP, ic]
  | x :: r, t + 2, h => by
    have hr : t < r.length * 2 := by simp at h; omega
    have := cellsP_at r t hr
    have e1 : (t + 2) / 2 = t / 2 + 1 := by omega
    have e2 : (t + 2) % 2 = t % 2 := by omega
    have e3 : cellsP (x :: r) = .int .i64 x.1 :: .int .i64 x.2 :: cellsP r := rfl
    rw [e1, e2, e3]
    have e4 : (x :: r).toArray[t / 2 + 1]! = r.toArray[t / 2]! := by
      have h2 : t / 2 < r.length := by omega
      rw [getElem!_pos _ _ (by simp; omega), getElem!_pos _ _ (by simpa using h2)]
      simp
    rw [e4]
    simpa using this
theorem flat_list (l : List (Int × Int)) : (flatK ic 2 l.toArray).toList = cellsP l := by
  have hl : (cellsP l).length = l.length * 2 := by
    induction l with
    | nil => rfl
    | cons x r ih => show (cellsP r).length + 1 + 1 = _; rw [ih]; simp; omega
  apply List.ext_getElem?
  intro t
  by_cases ht : t < l.length * 2
  · rw [cellsP_at l t ht, Array.getElem?_toList, Array.getElem?_eq_getElem (by simpa using ht)]
    have := get_flatK ic 2 l.toArray t (by simpa using ht)
    rw [getElem!_pos _ t (by simpa using ht)] at this
    rw [this]
  · rw [List.getElem?_eq_none (by simp; omega), List.getElem?_eq_none (by omega)]
theorem length_cellsP (l : List (Int × Int)) : (cellsP l).length = l.length * 2 := by
  rw [← flat_list]; simp
theorem holds_own {w : World} {g : Nat} {cur : Array Value} {e : TypeId} {ss : List (Int × Int)} (hb : w.heap[g]? = some (.cells cur e (0, 0))) (ht : cur.toList.take (ss.length * 2) = cellsP ss) : HoldsK ic 2 w g 0 ss.toArray := by
  intro j hj
  have hj' : j < ss.length * 2 := by simpa using hj
  refine ⟨?_, by simp [World.frozen?, hb]⟩
  have h1 : (cur.toList.take (ss.length * 2))[j]? = (cellsP ss)[j]? := by rw [ht]
  rw [List.getElem?_take_of_lt hj', ← flat_list, Array.getElem?_toList, Array.getElem?_toList, Array.getElem?_eq_getElem hj] at h1
  simp only [World.cell?, hb, Nat.zero_add]
  simp only [Option.isSome_none, Bool.false_eq_true, if_false]
  rw [h1, getElem!_pos _ j hj]; rfl
theorem own_holds {w : World} {g : Nat} {cur : Array Value} {e : TypeId} {ss : List (Int × Int)} (hb : w.heap[g]? = some (.cells cur e (0, 0))) (h : HoldsK ic 2 w g 0 ss.toArray) : cur.toList.take (ss.length * 2) = cellsP ss := by
  rw [← flat_list]
  apply List.ext_getElem?
  intro j
  by_cases hj : j < ss.length * 2
  · have hj2 : j < (flatK ic 2 ss.toArray).size := by simpa using hj
    have h1 := (h j hj2).1
    simp only [World.cell?, hb, Nat.zero_add] at h1
    simp only [Option.isSome_none, Bool.false_eq_true, if_false] at h1
    rw [List.getElem?_take_of_lt hj, Array.getElem?_toList, Array.getElem?_toList, h1, Array.getElem?_eq_getElem hj2, getElem!_pos _ j hj2]; rfl
  · rw [List.getElem?_take_eq_none (by omega), List.getElem?_eq_none (by simp; omega)]
theorem slice_ok (n : Nat) (h2 : 2 ≤ n) (hn : n < 4611686018427387904) : SortOk n := by
  intro gg cap Bs ss w cur hl hb h1 h3 h4 h5 RB
  have hgg : gg < w.heap.size := (Array.getElem?_eq_some_iff.1 hb).1
  refine (Any.sort_Slice_of_pdq (ρ := Try.laySlice_ren) Try.laySlice 40 28 svT svE (by kernel_rfl) (by kernel_rfl) (by kernel_rfl) (by kernel_rfl) 25 (fun _ => by kernel_rfl) (some ⟨gg, 0, none⟩) n cap hn 66 (by rw [svK n h2]; kernel_rfl)
    (.func 32) #[] #[.pointer (some ⟨Bs, 0, none⟩)] w
    (fun w' => ∃ ts : List (Int × Int), ts.Perm ss ∧ ts.Pairwise (fun a b => ltP b a = false) ∧ w'.ownsRow gg 28 2 (.slice (some ⟨gg, 0, none⟩) n cap) n (cellsP ts) ∧ w.grownBy w' (some gg)) ?_)
  have hB : sliceBound Try.prog 28 svE 25 (some ⟨gg, 0, none⟩) n cap = #[.slice (some ⟨gg, 0, none⟩) n cap, typeHandle Try.prog 28] := by
    unfold sliceBound; rw [if_neg (swapperK_gt _ _ _ h2)]
  have hW : RowKit.Below w.heap.size w (sliceWorld Try.prog Try.laySlice_ren 40 (some ⟨gg, 0, none⟩) n cap w) :=
    kept_alloc (kept_alloc (kept_refl w) _) _
  have hsw := swapSwapsK_of_literal (P := Try.prog) (α := Int × Int) false 66 (fun args W => run_callFunc_extern Try.func66 (by kernel_rfl) (by kernel_rfl) (by kernel_rfl) (e := Extern.ReflectliteSwapper.swap false) (by kernel_rfl) args W)
    28 svE (by kernel_rfl) ic 2 ic_len (by kernel_rfl) (fun _ => by kernel_rfl) (fun x v hv => by simp [ic] at hv; rcases hv with rfl | rfl <;> rfl) gg 0 n cap
  rw [hB]
  generalize (#[.slice (some ⟨gg, 0, none⟩) n cap, typeHandle Try.prog 28] : Array Value) = sb at hsw ⊢
  generalize sliceWorld Try.prog Try.laySlice_ren 40 (some ⟨gg, 0, none⟩) n cap w = W at hW ⊢
  have hbW : W.heap[gg]? = some (.cells cur 28 (0, 0)) := (hW.block gg hgg).trans hb
  have hne : Bs ≠ gg := fun e => by
    have h := RB
    rw [e] at h
    have h : w.heap[gg]? = _ := h
    rw [hb] at h
    cases h
  have C : Cx W gg Bs n sb := ⟨⟨cap, RB.below hW RB.lt⟩, hne, hsw, Nat.lt_of_lt_of_le hgg hW.size, hn⟩
  have hlim : Lib.bitLen n < 4611686018427387904 := Nat.lt_of_le_of_lt (Lib.bitLen_le n 62 (by omega) (by omega)) (by omega)
  have hp := ppdq_any C (n + 1) W ss.toArray 0 n (Lib.bitLen n) (by omega) (Sw.start (holds_own hbW (by rw [hl]; exact h5))) (by simpa using hl) (Nat.zero_le _) (Nat.le_refl _) hlim (Or.inl rfl)
  have hsort := pdq_sorts ltP ltP_swo ss.toArray 0 n (Lib.bitLen n) true true (Nat.zero_le _) (by simp [hl]) (Or.inl rfl)
  refine hp.mono ?_
  rintro e w' ⟨rfl, S, k⟩
  generalize pdq ltP ss.toArray 0 n (Lib.bitLen n) true true = d' at S hsort
  obtain ⟨hperm, hsrt⟩ := hsort
  have hsz : d'.toList.length = n := by have := hperm.1; simp at this; simp [this, hl]
  have hsz' : d'.size = n := by simpa using hsz
  obtain ⟨c', hc', hcs⟩ := S.sh _ _ _ hbW
  have htk := own_holds (ss := d'.toList) hc' (by simpa using S.h)
  refine ⟨rfl, d'.toList, ?_, ?_, ⟨by rw [length_cellsP, hsz], .inr ⟨gg, cap, c', rfl, Nat.le_refl _, hc', h1, h3, hcs.trans h4, by rw [← hsz]; exact htk⟩⟩, ?_⟩
  · obtain ⟨p1, _, p3⟩ := hperm
    have e1 : d'.extract 0 n = d' := by rw [← hsz']; simp
    have e2 : ss.toArray.extract 0 n = ss.toArray := by rw [← hl]; simp
    rw [e1, e2] at p3
    simpa using p3
  · rw [List.pairwise_iff_getElem]
    intro i j hi hj hij
    have := hsrt i j (Nat.zero_le _) hij (by omega)
    rw [getElem!_pos _ _ (by simpa using hj), getElem!_pos _ _ (by simpa using hi)] at this
    simpa using this
  · exact ⟨k.os.trans hW.os, k.tape.trans hW.tape, k.output.trans hW.output, Nat.le_trans hW.size k.size, fun b hb2 hne => (k.block b (Nat.lt_of_lt_of_le hb2 hW.size) (fun e => hne (by rw [e]))).trans (hW.block b hb2)⟩
theorem sort_ok (n : Nat) (h1 : 1 ≤ n) (hn : n < 4611686018427387904) : SortOk n := by
  by_cases h2 : 2 ≤ n
  · exact slice_ok n h2 hn
  · have e : n = 1 := by omega
    subst e
    intro gg cap Bs ss w cur hl hb h1 h3 h4 h5 RB
    refine (slice_one (some ⟨gg, 0, none⟩) cap _ _ _ w).mono ?_
    rintro e w' ⟨rfl, os, rfl⟩
    have hgg : gg < w.heap.size := (Array.getElem?_eq_some_iff.1 hb).1
    have hk := grown_grow w os
    refine ⟨rfl, ss, .refl _, ?_, ⟨by rw [length_cellsP, hl], .inr ⟨gg, cap, cur, rfl, Nat.le_refl _, (hk.block gg hgg).trans hb, h1, h3, h4, h5⟩⟩, ⟨hk.os, hk.tape, hk.output, hk.size, fun b hb2 _ => hk.block b hb2⟩⟩
    match ss, hl with
    | [x], _ => simp
end Go.Proofs.Ytiaegloipnhhdaa
