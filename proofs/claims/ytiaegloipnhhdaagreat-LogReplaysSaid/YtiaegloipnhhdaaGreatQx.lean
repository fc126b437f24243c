/- sort's pdqsort_func over instances. Conditions: the row lies in memory; places are within it. -/
import Derived.Test.YtiaegloipnhhdaaGreatQu
import Derived.Test.YtiaegloipnhhdaaGreatQv
import Derived.Test.YtiaegloipnhhdaaGreatQw
import Derived.Test.YtiaegloipnhhdaaGreatSlay
import Derived.LoopTactic
import Derived.Deep.LoopGhost
import Derived.Deep.CutBlock
import Derived.Sort.Walk13a
import Derived.Sort.AssemblyPlain
import Derived.Test.YtiaegloipnhhdaaGreatQa
import Derived.Test.YtiaegloipnhhdaaGreatQm
namespace Go.Proofs.YtiaegloipnhhdaaGreat
set_option maxRecDepth 100000
open Go.RowKit Go.Maps Go.Shelf Go.Sort Go.Lib
section
variable {W w : World} {blk Bs n : Nat} {d : Array (Int × Int)} {sb : Array Value}
theorem ltP_swo : SWO ltP where
  irrefl := ltP_irrefl
  trans _ _ _ h k := ltP_trans h k
  ntrans x y z h1 h2 := by unfold ltP at *; simp at *; omega
theorem hintV_two {h : Hint} (e : hintV h = 2) : h = .decreasing := by cases h <;> simp [hintV] at e ⊢
theorem eighth' {x y p q : Nat} (h1 : q ≤ p) (h2 : y ≤ x) : decide (((x : Int) - (y : Int)) / 8 ≤ (p : Int) - (q : Int)) = decide (p - q ≥ (x - y) / 8) :=
  decide_eq_decide.2 ⟨fun h => by omega, fun h => by omega⟩
theorem sw_world (S : Sw W blk d w) (hl : blk < W.heap.size) (m : Nat) (os : Array Obj) {d' : Array (Int × Int)} (hd : d'.size = d.size) :
    Sw W blk d' (sortWorldK ic 2 w blk 0 m d' os) ∧ Kq (fun k => k = blk) w (sortWorldK ic 2 w blk 0 m d' os) := by
  have hlw := Nat.lt_of_lt_of_le hl S.kq.size
  have k : Kq (fun k => k = blk) w (sortWorldK ic 2 w blk 0 m d' os) := by
    refine ⟨rfl, rfl, rfl, ?_, fun b hb hn => ?_⟩
    · unfold sortWorldK grow putRowK putRow mapBlock Sort.ahead
      simp
    · have hn : b ≠ blk := hn
      unfold sortWorldK grow putRowK putRow mapBlock Sort.ahead
      simp only [Array.getElem?_append, Array.size_modify, if_pos hb]
      rw [Array.getElem?_modify, if_neg (fun e => hn e.symm)]
  have sh : Shp blk w (sortWorldK ic 2 w blk 0 m d' os) := by
    have h1 := Shp.mapped (Sort.ahead w m) blk (putCells id 0 (flatK ic 2 d')) (fun c => by simp [putCells])
    have h2 : (sortWorldK ic 2 w blk 0 m d' os).heap[blk]? = (mapBlock (Sort.ahead w m) blk (putCells id 0 (flatK ic 2 d'))).heap[blk]? := by
      unfold sortWorldK putRowK putRow
      exact heap_grow_old _ _ (by simpa [mapBlock, Sort.ahead] using hlw)
    exact (show Shp blk w (mapBlock (Sort.ahead w m) blk (putCells id 0 (flatK ic 2 d'))) from h1).trans (Shp.eq h2)
  exact ⟨⟨holdsK_sortWorldK ic 2 w blk 0 m d d' os hlw S.h hd, S.kq.trans k (fun _ _ e => e), S.sh.trans sh⟩, k⟩
theorem prev_any (C : Cx W blk Bs n sb) (S : Sw W blk d w) (hd : d.size = n) {a b : Nat} (hab : a ≤ b) (hbn : b ≤ n) :
    Calls Tryz.prog 114 #[.agg #[.func (.func 34) #[] #[.pointer (some ⟨Bs, 0, none⟩)], .func (.func 107) #[] sb], .int .i64 a, .int .i64 b] w fun e w' => e = .returned (.tuple #[]) ∧ Sw W blk (reverseRange d a b) w' ∧ Kq (fun k => k = blk) w w' := by
  have hn := C.hn
  have h := Any.reverseRange_func_cells_w (ρ := Tryz.laySlice_ren) { Tryz.laySlice with } ic 2 ic_len (.func 34) #[] #[.pointer (some ⟨Bs, 0, none⟩)] 107 sb blk 0 a b d w (by rw [hd]; exact C.sw) S.h (Nat.lt_of_lt_of_le C.hb S.kq.size) hab (by omega) (by omega)
  refine h.mono ?_
  rintro e w' ⟨rfl, m, os, rfl⟩
  exact ⟨rfl, sw_world S C.hb m os (reverseRange_holds d a b hab (by omega)).1⟩
theorem pbreak_any (C : Cx W blk Bs n sb) (S : Sw W blk d w) (hd : d.size = n) {a b : Nat} (hab : a ≤ b) (hbn : b ≤ n) :
    Calls Tryz.prog 112 #[.agg #[.func (.func 34) #[] #[.pointer (some ⟨Bs, 0, none⟩)], .func (.func 107) #[] sb], .int .i64 a, .int .i64 b] w fun e w' => e = .returned (.tuple #[]) ∧ Sw W blk (breakPatterns d a b) w' ∧ Kq (fun k => k = blk) w w' := by
  have hn := C.hn
  have h := Any.breakPatterns_func_cells_w (ρ := Tryz.laySlice_ren) { Tryz.laySlice with } ic 2 ic_len (.func 34) #[] #[.pointer (some ⟨Bs, 0, none⟩)] 107 sb blk 0 a b d w (by rw [hd]; exact C.sw) S.h (Nat.lt_of_lt_of_le C.hb S.kq.size) hab (by omega) (by omega)
  refine h.mono ?_
  rintro e w' ⟨rfl, m, os, rfl⟩
  exact ⟨rfl, sw_world S C.hb m os (breakPatterns_holds d a b hab (by omega)).1⟩
set_option maxHeartbeats 64000000 in
theorem ppdq_any (C : Cx W blk Bs n sb) : ∀ (N : Nat) (w : World) (d : Array (Int × Int)) (a b limit : Nat), b - a < N → Sw W blk d w → d.size = n → a ≤ b → b ≤ n → limit < 4611686018427387904 → Go.Sort.Below ltP a b d →
    Calls Tryz.prog 73 #[.agg #[.func (.func 34) #[] #[.pointer (some ⟨Bs, 0, none⟩)], .func (.func 107) #[] sb], .int .i64 a, .int .i64 b, .int .i64 limit] w fun e w' => e = .returned (.tuple #[]) ∧ Sw W blk (pdq ltP d a b limit true true) w' ∧ Kq (fun k => k = blk) w w' := by
  intro N
  induction N with
  | zero => intro _ _ _ _ _ h; exact absurd h (Nat.not_lt_zero _)
  | succ N ih =>
    intro w d a b limit hN S hd hab hbn hlimit hBel0
    have IH := hide ih
    have HC := hide C
    have HBE := hide hBel0
    have HD0 := hide hd
    have HS := hide (show Sl W w (w.alloc (.cells #[.func (.func 34) #[] #[.pointer (some ⟨Bs, 0, none⟩)], .func (.func 107) #[] sb] 117)) blk d w.heap.size Bs sb from ⟨S.below (kept_alloc (kept_refl w) _) C.hb, .of_below (kept_alloc (kept_refl w) _), Row.new w _ _⟩)
    have hbd : w.heap.size ≠ blk := by have := C.hb; have := S.kq.size; omega
    have hn := C.hn
    clear S C ih hBel0 hd
    go_enter Tryz.func73, Tryz.ntmps73
    go_upto_region 1 with (fail)
    generalize w.alloc (.cells #[.func (.func 34) #[] #[.pointer (some ⟨Bs, 0, none⟩)], .func (.func 107) #[] sb] 117) = w1 at HS ⊢
    generalize w.heap.size = bd at HS hbd ⊢
    obtain ⟨P, hP⟩ : ∃ P, pdq ltP d a b limit true true = P := ⟨_, rfl⟩
    have HP := hide hP
    clear hP
    go_wp2
    go_loopg [1, 2, 3, 8, 9] (b - a) (fun k s1 s2 s3 s8 s9 wr => ∃ (a' b' lim : Nat) (wb wp : Bool) (dk : Array (Int × Int)), s1 = .int .i64 a' ∧ s2 = .int .i64 b' ∧ s3 = .int .i64 lim ∧ s8 = .bool wb ∧ s9 = .bool wp ∧
      a' ≤ b' ∧ b' ≤ n ∧ b' - a' ≤ k ∧ k ≤ b - a ∧ lim ≤ limit ∧ Hid (dk.size = n) ∧ Hid (Go.Sort.Below ltP a' b' dk) ∧ Hid (Sl W w wr blk dk bd Bs sb) ∧ Hid (pdq ltP dk a' b' lim wb wp = P))
    case atStart => exact ⟨a, b, limit, true, true, d, rfl, rfl, rfl, rfl, rfl, hab, hbn, Nat.le_refl _, Nat.le_refl _, Nat.le_refl _, HD0, HBE, HS, HP⟩
    case round =>
      clear HS HBE HD0
      obtain ⟨a', b', lim, wb, wp, dk, rfl, rfl, rfl, rfl, rfl, hab', hb', hk, hkN, hlim, HD, HBE, HT, HO⟩ := hrel
      have x0 := HT.out.bx.cell 0
      have x1 := HT.out.bx.cell 1
      by_cases h12 : b' - a' ≤ 12
      · have h12z : (b' : Int) - (a' : Int) ≤ 12 := by omega
        have HCC := hide (pins_any HC.out HT.out.sw HD.out hab' hb')
        go_wp2_with (go_at_call 110; (with_reducible refine HCC.out.mono ?_); rintro e w9 ⟨rfl, hs9, hk9⟩)
        (try simp only [Exit.inBlock, Exit.then]); refine bodyPost_ret (results_none rfl _ _ _) rfl ?_
        refine ⟨rfl, ?_, HT.out.kq.trans hk9 (fun _ _ e => e)⟩
        rw [HP.out, ← HO.out, pdq_small h12]
        exact hs9
      · have h12z : ¬ ((b' : Int) - (a' : Int) ≤ 12) := by omega
        by_cases hl0 : lim = 0
        · subst hl0
          have HCC := hide (pheap_any HC.out HT.out.sw HD.out (show a' < b' by omega) hb')
          try rw [show ((0 : Nat) : Int) = 0 from rfl]
          go_wp2_with (go_at_call 111; (with_reducible refine HCC.out.mono ?_); rintro e w9 ⟨rfl, hs9, hk9⟩)
          (try simp only [Exit.inBlock, Exit.then]); refine bodyPost_ret (results_none rfl _ _ _) rfl ?_
          refine ⟨rfl, ?_, HT.out.kq.trans hk9 (fun _ _ e => e)⟩
          rw [HP.out, ← HO.out, pdq_heap h12 rfl]
          exact hs9
        · have hl0z : ¬ ((lim : Int) = 0) := by omega
          obtain ⟨s1, B1, hc1, s2, B2, hpv, s3, B3⟩ := rd_facts (lt := ltP) (limit := lim) (wb := wb) (wp := wp) ltP_swo partialInsertionSort_holds reverseRange_holds (show a' < b' by omega) (show b' ≤ dk.size by rw [HD.out]; exact hb') HBE.out
          rw [HD.out] at s1 s2 s3
          replace s1 := hide s1
          replace s2 := hide s2
          replace s3 := hide s3
          replace B3 := hide B3
          clear B1 B2
          go_upto_if 35 with fail
          go_cut [3] from 19 (fun s3 wc => s3 = .int .i64 (rd ltP dk a' b' lim wb wp).lim ∧ Hid (Sl W w wc blk (rd ltP dk a' b' lim wb wp).d1 bd Bs sb))
          case first =>
            cases wb
            · have HCC := hide (pbreak_any HC.out HT.out.sw HD.out hab' hb')
              go_wp2_with (go_at_call 112; (with_reducible refine HCC.out.mono ?_); rintro e w9 ⟨rfl, hs9, hk9⟩; replace HT := hide (HT.out.turn hs9 hk9 hbd); clear hs9 hk9 x0 x1)
              go_meet
              case rel =>
                refine ⟨?_, HT⟩
                show Value.int .i64 ((lim : Int) - 1) = Value.int .i64 ((lim - 1 : Nat) : Int)
                congr 1
                omega
            · go_wp2_with fail
              go_meet
              case rel => exact ⟨rfl, HT⟩
          case rest =>
            clear HT x0 x1
            obtain ⟨rfl, HT⟩ := hcut
            have x0 := HT.out.bx.cell 0
            have x1 := HT.out.bx.cell 1
            have HCC := hide (ppivot_any HC.out HT.out.sw s1.out (show a' + 8 ≤ b' by omega) hb')
            rw [← rd_c] at HCC
            go_upto_if 50 with (go_at_call 113; (with_reducible refine HCC.out.mono ?_); rintro e w9 ⟨rfl, hb9⟩; replace HT := hide (HT.out.below hb9 HC.out.hb); clear hb9 x0 x1)
            clear HCC
            have x0 := HT.out.bx.cell 0
            have x1 := HT.out.bx.cell 1
            go_cut [11, 12] from 19 (fun s11 s12 wc => s11 = .int .i64 (rd ltP dk a' b' lim wb wp).pivot ∧ s12 = .int .i64 (hintV (rd ltP dk a' b' lim wb wp).hint) ∧ Hid (Sl W w wc blk (rd ltP dk a' b' lim wb wp).d2 bd Bs sb))
            case first =>
              by_cases hh : (rd ltP dk a' b' lim wb wp).c.2 = .decreasing
              · have hcode : hintV (rd ltP dk a' b' lim wb wp).c.2 = 2 := by rw [hh]; rfl
                obtain ⟨e2, epv, eht⟩ := rd_dec hh
                have HCC := hide (prev_any HC.out HT.out.sw s1.out hab' hb')
                rw [← e2] at HCC
                go_wp2_with (go_at_call 114; (with_reducible refine HCC.out.mono ?_); rintro e w9 ⟨rfl, hs9, hk9⟩; replace HT := hide (HT.out.turn hs9 hk9 hbd); clear hs9 hk9 x0 x1)
                go_meet
                case rel =>
                  refine ⟨?_, by rw [eht]; rfl, HT⟩
                  rw [epv]
                  congr 1
                  omega
              · have hcode : ¬ (hintV (rd ltP dk a' b' lim wb wp).c.2 = 2) := fun h => hh (hintV_two h)
                obtain ⟨e2, epv, eht⟩ := rd_not hh
                go_wp2_with fail
                go_meet
                case rel => exact ⟨by rw [epv], by rw [eht], by rw [e2]; exact HT⟩
            case rest =>
              clear HT x0 x1
              obtain ⟨rfl, rfl, HT⟩ := hcut
              go_upto_region 16 with fail
              go_cut [12, 68] from 19 (fun s12 s68 wx => s12 = .int .i64 (hintV (rd ltP dk a' b' lim wb wp).hint) ∧ s68 = .bool (wb && wp && decide ((rd ltP dk a' b' lim wb wp).hint = .increasing)) ∧ wx = wc)
              case first =>
                cases wb <;> cases wp <;> cases hh3 : (rd ltP dk a' b' lim _ _).hint <;>
                  (have hcode3 := congrArg hintV hh3
                   simp only [hintV] at hcode3
                   go_wp2_with fail
                   go_meet
                   exact ⟨by simp [hh3, hintV], by simp [hh3, hintV], rfl⟩)
              case rest =>
                obtain ⟨rfl, rfl, rfl⟩ := hcut
                go_upto_if 68 with fail
                have x0 := HT.out.bx.cell 0
                have x1 := HT.out.bx.cell 1
                go_cut [] from 19 (fun wx => (rd ltP dk a' b' lim wb wp).pi.2 = false ∧ Hid (Sl W w wx blk (rd ltP dk a' b' lim wb wp).pi.1 bd Bs sb))
                case first =>
                  cases h68 : (wb && wp && decide ((rd ltP dk a' b' lim wb wp).hint = .increasing))
                  · have epi := rd_pi_no h68
                    go_wp2_with fail
                    go_meet
                    case rel => exact ⟨by rw [epi], by rw [epi]; exact HT⟩
                  · have epi := rd_pi_yes h68
                    have HCC := hide (ppart_any HC.out HT.out.sw s2.out (show a' < b' by omega) hb')
                    rw [← epi] at HCC
                    cases hp2 : (rd ltP dk a' b' lim wb wp).pi.2
                    · rw [hp2] at HCC
                      go_wp2_with (go_at_call 115; (with_reducible refine HCC.out.mono ?_); rintro e w9 ⟨rfl, hs9, hk9⟩; replace HT := hide (HT.out.turn hs9 hk9 hbd); clear hs9 hk9 x0 x1)
                      go_meet
                      case rel => exact ⟨hp2, HT⟩
                    · rw [hp2] at HCC
                      go_wp2_with (go_at_call 115; (with_reducible refine HCC.out.mono ?_); rintro e w9 ⟨rfl, hs9, hk9⟩; replace HT := hide (HT.out.turn hs9 hk9 hbd); clear hs9 hk9 x0 x1)
                      (try simp only [Exit.inBlock, Exit.then]); refine bodyPost_ret (results_none rfl _ _ _) rfl ?_
                      refine ⟨rfl, ?_, HT.out.kq⟩
                      rw [HP.out, ← HO.out, pdq_done h12 hl0 hp2]
                      exact HT.out.sw
                case rest =>
                  clear HT x0 x1
                  obtain ⟨hp2, HT⟩ := hcut
                  have x0 := HT.out.bx.cell 0
                  have x1 := HT.out.bx.cell 1
                  go_upto_region 18 with fail
                  go_cut [83] from 19 (fun s83 wx => s83 = .bool (decide (a' > 0) && !ltP (rd ltP dk a' b' lim wb wp).pi.1[a' - 1]! (rd ltP dk a' b' lim wb wp).pi.1[(rd ltP dk a' b' lim wb wp).pivot]!) ∧ Hid (Sl W w wx blk (rd ltP dk a' b' lim wb wp).pi.1 bd Bs sb))
                  case first =>
                    rcases Nat.eq_zero_or_pos a' with ha0 | ha0
                    · have ha0z : decide ((a' : Int) > 0) = false := decide_eq_false (by omega)
                      go_wp2_with fail
                      go_meet
                      case rel => exact ⟨by simp [ha0], HT⟩
                    · have ha0z : (a' : Int) > 0 := by omega
                      have hl := less_any HC.out HT.out.sw s3.out (i := a' - 1) (j := (rd ltP dk a' b' lim wb wp).pivot) (by omega) (by omega)
                      rw [show ((a' - 1 : Nat) : Int) = (a' : Int) - 1 by omega] at hl
                      cases hlv : ltP (rd ltP dk a' b' lim wb wp).pi.1[a' - 1]! (rd ltP dk a' b' lim wb wp).pi.1[(rd ltP dk a' b' lim wb wp).pivot]! with
                      | true =>
                        rw [hlv] at hl
                        have HLL := hide hl
                        clear hl
                        go_wp2_with (go_at_call 34; (with_reducible refine HLL.out.mono ?_); rintro e w9 ⟨rfl, hb9⟩; replace HT := hide (HT.out.below hb9 HC.out.hb); clear hb9 x0 x1)
                        go_meet
                        exact ⟨by simp [ha0, hlv], HT⟩
                      | false =>
                        rw [hlv] at hl
                        have HLL := hide hl
                        clear hl
                        go_wp2_with (go_at_call 34; (with_reducible refine HLL.out.mono ?_); rintro e w9 ⟨rfl, hb9⟩; replace HT := hide (HT.out.below hb9 HC.out.hb); clear hb9 x0 x1)
                        go_meet
                        exact ⟨by simp [ha0, hlv], HT⟩
                  case rest =>
                    clear HT x0 x1
                    obtain ⟨rfl, HT⟩ := hcut
                    have x0 := HT.out.bx.cell 0
                    have x1 := HT.out.bx.cell 1
                    cases h87 : (decide (a' > 0) && !ltP (rd ltP dk a' b' lim wb wp).pi.1[a' - 1]! (rd ltP dk a' b' lim wb wp).pi.1[(rd ltP dk a' b' lim wb wp).pivot]!)
                    · obtain ⟨mid, ap, d4, hx⟩ : ∃ mid ap d4, partition ltP (rd ltP dk a' b' lim wb wp).pi.1 a' b' (rd ltP dk a' b' lim wb wp).pivot = (mid, ap, d4) := ⟨(partition ltP (rd ltP dk a' b' lim wb wp).pi.1 a' b' (rd ltP dk a' b' lim wb wp).pivot).1, (partition ltP (rd ltP dk a' b' lim wb wp).pi.1 a' b' (rd ltP dk a' b' lim wb wp).pivot).2.1, (partition ltP (rd ltP dk a' b' lim wb wp).pi.1 a' b' (rd ltP dk a' b' lim wb wp).pivot).2.2, rfl⟩
                      obtain ⟨r1, r2, r3, r4, r5, r6, r7⟩ := round_part ltP_swo (partition_holds ltP) hpv.1 hpv.2 (show b' ≤ (rd ltP dk a' b' lim wb wp).pi.1.size by rw [s3.out]; exact hb') B3.out hx
                      have HCC := hide (ppartition_any HC.out HT.out.sw s3.out (show a' + 2 ≤ b' by omega) hb' (show (rd ltP dk a' b' lim wb wp).pivot < n by omega))
                      rw [hx] at HCC
                      have X := hide hx
                      have r6 := hide r6
                      have r7 := hide r7
                      have r4 := hide r4
                      have r5 := hide r5
                      have hs4 := hide (r3.trans s3.out)
                      clear hx r3
                      go_upto_if 109 with (go_at_call 117; (with_reducible refine HCC.out.mono ?_); rintro e w9 ⟨rfl, hs9, hk9⟩; replace HT := hide (HT.out.turn hs9 hk9 hbd); clear hs9 hk9 x0 x1)
                      clear HCC
                      have x0 := HT.out.bx.cell 0
                      have x1 := HT.out.bx.cell 1
                      by_cases h4 : mid - a' < b' - mid
                      · have h4z : (mid : Int) - (a' : Int) < (b' : Int) - (mid : Int) := by omega
                        have HCC := hide (IH.out w9 d4 a' mid (rd ltP dk a' b' lim wb wp).lim (by omega) HT.out.sw hs4.out (by omega) (by omega) (Nat.lt_of_le_of_lt (Nat.le_trans rd_lim_le hlim) hlimit) r4.out)
                        obtain ⟨pL, sL⟩ := pdq_sorts ltP ltP_swo d4 a' mid (rd ltP dk a' b' lim wb wp).lim true true (by omega) (by rw [hs4.out]; omega) r4.out
                        have HPL := hide (⟨pL.1, (r6.out _ pL sL).1⟩ : (pdq ltP d4 a' mid (rd ltP dk a' b' lim wb wp).lim true true).size = d4.size ∧ Go.Sort.Below ltP (mid + 1) b' (pdq ltP d4 a' mid (rd ltP dk a' b' lim wb wp).lim true true))
                        clear pL sL
                        go_wp2_with (go_at_call 73; (with_reducible refine HCC.out.mono ?_); rintro e w9 ⟨rfl, hs9, hk9⟩; replace HT := hide (HT.out.turn hs9 hk9 hbd); clear hs9 hk9 x0 x1)
                        go_roundg (b' - (mid + 1))
                        case measure => omega
                        case rel =>
                          refine ⟨mid + 1, b', (rd ltP dk a' b' lim wb wp).lim, decide (mid - a' ≥ (b' - a') / 8), ap, pdq ltP d4 a' mid (rd ltP dk a' b' lim wb wp).lim true true, by simp, rfl, rfl, ?_, rfl, by omega, by omega, Nat.le_refl _, by omega, Nat.le_trans rd_lim_le hlim, hide (HPL.out.1.trans hs4.out), hide HPL.out.2, HT, ?_⟩
                          · exact congrArg Value.bool (eighth' (by omega) (by omega))
                          · have hx := X.out
                            exact hide (by rw [← HO.out, pdq_left h12 hl0 hp2 h87 (by rw [hx]; exact ⟨r1, r2⟩) (by rw [hx]; exact h4), hx])
                      · have h4z : ¬ ((mid : Int) - (a' : Int) < (b' : Int) - (mid : Int)) := by omega
                        have hih := IH.out w9 d4 (mid + 1) b' (rd ltP dk a' b' lim wb wp).lim (by omega) HT.out.sw hs4.out (by omega) (by omega) (Nat.lt_of_le_of_lt (Nat.le_trans rd_lim_le hlim) hlimit) r5.out
                        rw [show ((mid + 1 : Nat) : Int) = (mid : Int) + 1 by omega] at hih
                        have HCC := hide hih
                        clear hih
                        obtain ⟨pL, sL⟩ := pdq_sorts ltP ltP_swo d4 (mid + 1) b' (rd ltP dk a' b' lim wb wp).lim true true (by omega) (by rw [hs4.out]; omega) r5.out
                        have HPL := hide (⟨pL.1, (r7.out _ pL sL).1⟩ : (pdq ltP d4 (mid + 1) b' (rd ltP dk a' b' lim wb wp).lim true true).size = d4.size ∧ Go.Sort.Below ltP a' mid (pdq ltP d4 (mid + 1) b' (rd ltP dk a' b' lim wb wp).lim true true))
                        clear pL sL
                        go_wp2_with (go_at_call 73; (with_reducible refine HCC.out.mono ?_); rintro e w9 ⟨rfl, hs9, hk9⟩; replace HT := hide (HT.out.turn hs9 hk9 hbd); clear hs9 hk9 x0 x1)
                        go_roundg (mid - a')
                        case measure => omega
                        case rel =>
                          refine ⟨a', mid, (rd ltP dk a' b' lim wb wp).lim, decide (b' - mid ≥ (b' - a') / 8), ap, pdq ltP d4 (mid + 1) b' (rd ltP dk a' b' lim wb wp).lim true true, rfl, rfl, rfl, ?_, rfl, by omega, by omega, Nat.le_refl _, by omega, Nat.le_trans rd_lim_le hlim, hide (HPL.out.1.trans hs4.out), hide HPL.out.2, HT, ?_⟩
                          · exact congrArg Value.bool (eighth' (by omega) (by omega))
                          · have hx := X.out
                            exact hide (by rw [← HO.out, pdq_right h12 hl0 hp2 h87 (by rw [hx]; exact ⟨r1, r2⟩) (by rw [hx]; exact h4), hx])
                    · have h87' := h87
                      simp only [Bool.and_eq_true, decide_eq_true_eq, Bool.not_eq_true'] at h87'
                      obtain ⟨mid, d4, hx⟩ : ∃ mid d4, partitionEqual ltP (rd ltP dk a' b' lim wb wp).pi.1 a' b' (rd ltP dk a' b' lim wb wp).pivot = (mid, d4) := ⟨(partitionEqual ltP (rd ltP dk a' b' lim wb wp).pi.1 a' b' (rd ltP dk a' b' lim wb wp).pivot).1, (partitionEqual ltP (rd ltP dk a' b' lim wb wp).pi.1 a' b' (rd ltP dk a' b' lim wb wp).pivot).2, rfl⟩
                      obtain ⟨r1, r2, r3, r4, _⟩ := round_eq ltP_swo (partitionEqual_holds ltP) h87'.1 hpv.1 hpv.2 (show b' ≤ (rd ltP dk a' b' lim wb wp).pi.1.size by rw [s3.out]; exact hb') B3.out h87'.2 hx
                      have HCC := hide (pparteq_any HC.out HT.out.sw s3.out (show a' + 1 ≤ b' by omega) hb' (show (rd ltP dk a' b' lim wb wp).pivot < n by omega))
                      rw [hx] at HCC
                      have X := hide hx
                      have r4 := hide r4
                      have hs4 := hide (r3.trans s3.out)
                      clear hx r3
                      clear h87'
                      go_wp2_with (go_at_call 116; (with_reducible refine HCC.out.mono ?_); rintro e w9 ⟨rfl, hs9, hk9⟩; replace HT := hide (HT.out.turn hs9 hk9 hbd); clear hs9 hk9 x0 x1)
                      go_roundg (b' - mid)
                      case measure => omega
                      case rel =>
                        have hx := X.out
                        exact ⟨mid, b', (rd ltP dk a' b' lim wb wp).lim, wb, wp, d4, rfl, rfl, rfl, rfl, rfl, r2, hb', Nat.le_refl _, by omega, Nat.le_trans rd_lim_le hlim, hs4, r4, HT, hide (by rw [← HO.out, pdq_eq h12 hl0 hp2 h87 (by rw [hx]; exact ⟨r1, r2⟩), hx])⟩
end
end Go.Proofs.YtiaegloipnhhdaaGreat
/- sort.Slice as the program's List calls it, at whatever length. Conditions: the length has room. -/
namespace Go.Proofs.YtiaegloipnhhdaaGreat
set_option maxRecDepth 100000
open Go.RowKit Go.Maps Go.Shelf Go.Sort Go.Lib
theorem cellsP_at : ∀ (l : List (Int × Int)) (t : Nat), t < l.length * 2 → (cellsP l)[t]? = some ((ic (l.toArray[t / 2]!))[t % 2]!)
  | [], t, h => by simp at h
  | x :: r, 0, _ => by simp [cellsP, ic]
  | x :: r, 1, _ => by simp [cellsP, ic]
  | x :: r, t + 2, h => by
    have hr : t < r.length * 2 := by simp at h; omega
    have := cellsP_at r t hr
    have e1 : (t + 2) / 2 = t / 2 + 1 := by omega
    have e2 : (t + 2) % 2 = t % 2 := by omega
    have e3 : cellsP (x :: r) = .int .i64 x.1 :: .int .i64 x.2 :: cellsP r := rfl
    rw [e1, e2, e3]
    have e4 : (x :: r).toArray[t / 2 + 1]! = r.toArray[t / 2]! := by
      have h2 : t / 2 < r.length := by omega
      rw [getElem!_pos _ _ (by simp; omega), getElem!_pos _ _ (by simpa using h2)]
      simp
    rw [e4]
    simpa using this
theorem flat_list (l : List (Int × Int)) : (flatK ic 2 l.toArray).toList = cellsP l := by
  have hl : (cellsP l).length = l.length * 2 := by
    induction l with
    | nil => rfl
    | cons x r ih => show (cellsP r).length + 1 + 1 = _; rw [ih]; simp; omega
  apply List.ext_getElem?
  intro t
  by_cases ht : t < l.length * 2
  · rw [cellsP_at l t ht, Array.getElem?_toList, Array.getElem?_eq_getElem (by simpa using ht)]
    have := get_flatK ic 2 l.toArray t (by simpa using ht)
    rw [getElem!_pos _ t (by simpa using ht)] at this
    rw [this]
  · rw [List.getElem?_eq_none (by simp; omega), List.getElem?_eq_none (by omega)]
theorem length_cellsP (l : List (Int × Int)) : (cellsP l).length = l.length * 2 := by
  rw [← flat_list]; simp
theorem holds_own {w : World} {g : Nat} {cur : Array Value} {e : TypeId} {ss : List (Int × Int)} (hb : w.heap[g]? = some (.cells cur e (0, 0))) (ht : cur.toList.take (ss.length * 2) = cellsP ss) : HoldsK ic 2 w g 0 ss.toArray := by
  intro j hj
  have hj' : j < ss.length * 2 := by simpa using hj
  refine ⟨?_, by simp [World.frozen?, hb]⟩
  have h1 : (cur.toList.take (ss.length * 2))[j]? = (cellsP ss)[j]? := by rw [ht]
  rw [List.getElem?_take_of_lt hj', ← flat_list, Array.getElem?_toList, Array.getElem?_toList, Array.getElem?_eq_getElem hj] at h1
  simp only [World.cell?, hb, Nat.zero_add]
  simp only [Option.isSome_none, Bool.false_eq_true, if_false]
  rw [h1, getElem!_pos _ j hj]; rfl
theorem own_holds {w : World} {g : Nat} {cur : Array Value} {e : TypeId} {ss : List (Int × Int)} (hb : w.heap[g]? = some (.cells cur e (0, 0))) (h : HoldsK ic 2 w g 0 ss.toArray) : cur.toList.take (ss.length * 2) = cellsP ss := by
  rw [← flat_list]
  apply List.ext_getElem?
  intro j
  by_cases hj : j < ss.length * 2
  · have hj2 : j < (flatK ic 2 ss.toArray).size := by simpa using hj
    have h1 := (h j hj2).1
    simp only [World.cell?, hb, Nat.zero_add] at h1
    simp only [Option.isSome_none, Bool.false_eq_true, if_false] at h1
    rw [List.getElem?_take_of_lt hj, Array.getElem?_toList, Array.getElem?_toList, h1, Array.getElem?_eq_getElem hj2, getElem!_pos _ j hj2]; rfl
  · rw [List.getElem?_take_eq_none (by omega), List.getElem?_eq_none (by simp; omega)]
theorem slice_ok (n : Nat) (h2 : 2 ≤ n) (hn : n < 4611686018427387904) : SortOk n := by
  intro gg cap Bs ss w cur hl hb h1 h3 h4 h5 RB
  have hgg : gg < w.heap.size := (Array.getElem?_eq_some_iff.1 hb).1
  refine (Any.sort_Slice_of_pdq (ρ := Tryz.laySlice_ren) Tryz.laySlice 48 30 svT svE (by kernel_rfl) (by kernel_rfl) (by kernel_rfl) (by kernel_rfl) 25 (fun _ => by kernel_rfl) (some ⟨gg, 0, none⟩) n cap hn 107 (by rw [svK n h2]; kernel_rfl)
    (.func 34) #[] #[.pointer (some ⟨Bs, 0, none⟩)] w
    (fun w' => ∃ ts : List (Int × Int), ts.Perm ss ∧ ts.Pairwise (fun a b => ltP b a = false) ∧ w'.ownsRow gg 30 2 (.slice (some ⟨gg, 0, none⟩) n cap) n (cellsP ts) ∧ w.grownBy w' (some gg)) ?_)
  have hB : sliceBound Tryz.prog 30 svE 25 (some ⟨gg, 0, none⟩) n cap = #[.slice (some ⟨gg, 0, none⟩) n cap, typeHandle Tryz.prog 30] := by
    unfold sliceBound; rw [if_neg (swapperK_gt _ _ _ h2)]
  have hW : RowKit.Below w.heap.size w (sliceWorld Tryz.prog Tryz.laySlice_ren 48 (some ⟨gg, 0, none⟩) n cap w) :=
    kept_alloc (kept_alloc (kept_refl w) _) _
  have hsw := swapSwapsK_of_literal (P := Tryz.prog) (α := Int × Int) false 107 (fun args W => run_callFunc_extern Tryz.func107 (by kernel_rfl) (by kernel_rfl) (by kernel_rfl) (e := Extern.ReflectliteSwapper.swap false) (by kernel_rfl) args W)
    30 svE (by kernel_rfl) ic 2 ic_len (by kernel_rfl) (fun _ => by kernel_rfl) (fun x v hv => by simp [ic] at hv; rcases hv with rfl | rfl <;> rfl) gg 0 n cap
  rw [hB]
  generalize (#[.slice (some ⟨gg, 0, none⟩) n cap, typeHandle Tryz.prog 30] : Array Value) = sb at hsw ⊢
  generalize sliceWorld Tryz.prog Tryz.laySlice_ren 48 (some ⟨gg, 0, none⟩) n cap w = W at hW ⊢
  have hbW : W.heap[gg]? = some (.cells cur 30 (0, 0)) := (hW.block gg hgg).trans hb
  have hne : Bs ≠ gg := fun e => by
    have h := RB
    rw [e] at h
    have h : w.heap[gg]? = _ := h
    rw [hb] at h
    cases h
  have C : Cx W gg Bs n sb := ⟨⟨cap, RB.below hW RB.lt⟩, hne, hsw, Nat.lt_of_lt_of_le hgg hW.size, hn⟩
  have hlim : Lib.bitLen n < 4611686018427387904 := Nat.lt_of_le_of_lt (Lib.bitLen_le n 62 (by omega) (by omega)) (by omega)
  have hp := ppdq_any C (n + 1) W ss.toArray 0 n (Lib.bitLen n) (by omega) (Sw.start (holds_own hbW (by rw [hl]; exact h5))) (by simpa using hl) (Nat.zero_le _) (Nat.le_refl _) hlim (Or.inl rfl)
  have hsort := pdq_sorts ltP ltP_swo ss.toArray 0 n (Lib.bitLen n) true true (Nat.zero_le _) (by simp [hl]) (Or.inl rfl)
  refine hp.mono ?_
  rintro e w' ⟨rfl, S, k⟩
  generalize pdq ltP ss.toArray 0 n (Lib.bitLen n) true true = d' at S hsort
  obtain ⟨hperm, hsrt⟩ := hsort
  have hsz : d'.toList.length = n := by have := hperm.1; simp at this; simp [this, hl]
  have hsz' : d'.size = n := by simpa using hsz
  obtain ⟨c', hc', hcs⟩ := S.sh _ _ _ hbW
  have htk := own_holds (ss := d'.toList) hc' (by simpa using S.h)
  refine ⟨rfl, d'.toList, ?_, ?_, ⟨by rw [length_cellsP, hsz], .inr ⟨gg, cap, c', rfl, Nat.le_refl _, hc', h1, h3, hcs.trans h4, by rw [← hsz]; exact htk⟩⟩, ?_⟩
  · obtain ⟨p1, _, p3⟩ := hperm
    have e1 : d'.extract 0 n = d' := by rw [← hsz']; simp
    have e2 : ss.toArray.extract 0 n = ss.toArray := by rw [← hl]; simp
    rw [e1, e2] at p3
    simpa using p3
  · rw [List.pairwise_iff_getElem]
    intro i j hi hj hij
    have := hsrt i j (Nat.zero_le _) hij (by omega)
    rw [getElem!_pos _ _ (by simpa using hj), getElem!_pos _ _ (by simpa using hi)] at this
    simpa using this
  · exact ⟨k.os.trans hW.os, k.tape.trans hW.tape, k.output.trans hW.output, Nat.le_trans hW.size k.size, fun b hb2 hne => (k.block b (Nat.lt_of_lt_of_le hb2 hW.size) (fun e => hne (by rw [e]))).trans (hW.block b hb2)⟩
theorem sort_ok (n : Nat) (h1 : 1 ≤ n) (hn : n < 4611686018427387904) : SortOk n := by
  by_cases h2 : 2 ≤ n
  · exact slice_ok n h2 hn
  · have e : n = 1 := by omega
    subst e
    intro gg cap Bs ss w cur hl hb h1 h3 h4 h5 RB
    refine (slice_one (some ⟨gg, 0, none⟩) cap _ _ _ w).mono ?_
    rintro e w' ⟨rfl, os, rfl⟩
    have hgg : gg < w.heap.size := (Array.getElem?_eq_some_iff.1 hb).1
    have hk := grown_grow w os
    refine ⟨rfl, ss, .refl _, ?_, ⟨by rw [length_cellsP, hl], .inr ⟨gg, cap, cur, rfl, Nat.le_refl _, (hk.block gg hgg).trans hb, h1, h3, h4, h5⟩⟩, ⟨hk.os, hk.tape, hk.output, hk.size, fun b hb2 _ => hk.block b hb2⟩⟩
    match ss, hl with
    | [x], _ => simp
end Go.Proofs.YtiaegloipnhhdaaGreat
/- Lists of instances as the program answers them; concordbook.Same of two; the program's List at every length. Conditions: the lists lie in memory, their lengths have room. -/
namespace Go.Proofs.YtiaegloipnhhdaaGreat
set_option maxRecDepth 100000
open Go.RowKit
theorem len2 {x : List Int} (h : x.length = 2) : ∃ a b, x = [a, b] := by
  match x, h with
  | [a, b], _ => exact ⟨a, b, rfl⟩
set_option maxHeartbeats 1000000 in
theorem same_inst (A B : Option Addr) (n m c d : Nat) (zs ys : List (List Int)) (w : World) (hn : zs.length = n) (hm : ys.length = m) (az : All 2 zs) (ay : All 2 ys) (hz : Its 2 w A zs) (hy : Its 2 w B ys) (ln : n ≤ 4611686018427387904) (lm : m ≤ 4611686018427387904) :
    Calls Tryz.prog 13 #[.slice A n c, .slice B m d] w fun e w' => e = .returned (.bool (decide (zs = ys))) ∧ ∃ q, w' = w.drewN q := by
  subst hn hm
  have heq := fun a b c d w => neq_inst a b c d w
  by_cases hl : zs.length = ys.length
  · have hb : ((zs.length : Int) != (ys.length : Int)) = false := by rw [hl]; simp
    have HL := hide hl
    clear hl
    go_enter Tryz.func13, Tryz.ntmps13
    go_wp2
    go_loopw [5] (fun i wr => ∃ k q : Nat, k ≤ zs.length ∧ i = .int .i64 k ∧ wr = w.drewN q ∧ Hid (∀ j, j < k → zs[j]? = ys[j]?)) (fun i _ => zs.length - (intOf i).toNat)
    case atStart => exact ⟨0, 0, by omega, rfl, rfl, fun j hj => absurd hj (by omega)⟩
    case round =>
      obtain ⟨k, q, hk, rfl, rfl, hs⟩ := hrel
      by_cases hlt : k < zs.length
      · have hl := HL.out
        obtain ⟨x, hx⟩ : ∃ x, zs[k]? = some x := ⟨_, List.getElem?_eq_getElem hlt⟩
        obtain ⟨y, hyy⟩ : ∃ x, ys[k]? = some x := ⟨_, List.getElem?_eq_getElem (by omega)⟩
        obtain ⟨x1, x2, rfl⟩ := len2 (az.at_ hx)
        obtain ⟨y1, y2, rfl⟩ := len2 (ay.at_ hyy)
        obtain ⟨b1, o1, rfl, _, c⟩ := hz.at_ hx
        obtain ⟨b2, o2, rfl, _, d⟩ := hy.at_ hyy
        have c0 : w.cell? ⟨b1, o1 + k * 2, none⟩ = some (.int .i64 x1) := c 0 (by omega)
        have c1 : w.cell? ⟨b1, o1 + k * 2 + 1, none⟩ = some (.int .i64 x2) := c 1 (by omega)
        have d0 : w.cell? ⟨b2, o2 + k * 2, none⟩ = some (.int .i64 y1) := d 0 (by omega)
        have d1 : w.cell? ⟨b2, o2 + k * 2 + 1, none⟩ = some (.int .i64 y2) := d 1 (by omega)
        have lt1 : k < ys.length := by omega
        have Hz := hide hz; have Hy := hide hy; have HX := hide hx; have HY := hide hyy; clear hz hy hx hyy hl c d
        cases he : sameB x1 x2 y1 y2
        · go_wp2
          go_quiet (fail)
          go_wp2
          go_ret
          refine ⟨ret_bool ?_, _, World.drewN_drewN _ _ _⟩
          symm; rw [decide_eq_false_iff_not]; rintro rfl
          have := HX.out.symm.trans HY.out
          rw [same_iff, decide_eq_false_iff_not] at he
          exact he (Option.some.inj this)
        · go_wp2
          go_quiet (fail)
          go_wp2
          go_roundw
          case rel => exact ⟨k + 1, _, by omega, by go_num, rfl, fun j hj => by
            rcases Nat.lt_or_ge j k with h1 | h1
            · exact hs.out j h1
            · obtain rfl : j = k := by omega
              rw [HX.out, HY.out]
              rw [same_iff, decide_eq_true_iff] at he
              rw [he]⟩
          case measure => simp [intOf]; omega
      · go_wp2
        go_ret
        refine ⟨ret_bool ?_, _, rfl⟩
        symm; rw [decide_eq_true_iff]
        apply List.ext_getElem?
        intro j
        rcases Nat.lt_or_ge j k with h1 | h1
        · exact hs.out j h1
        · have hl := HL.out
          rw [List.getElem?_eq_none (by omega), List.getElem?_eq_none (by omega)]
  · have hb : ((zs.length : Int) != (ys.length : Int)) = true := by simp; omega
    have HL := hide hl
    clear hl
    go_enter Tryz.func13, Tryz.ntmps13
    go_wp2
    go_ret
    exact ⟨ret_bool (by symm; rw [decide_eq_false_iff_not]; intro h; exact HL.out (by rw [h])), 0, rfl⟩
/-- The instances of a list, as lists of two. -/
def prs (l : List (Int × Int)) : List (List Int) := l.map fun i => [i.1, i.2]
theorem prs_len (l : List (Int × Int)) : (prs l).length = l.length := List.length_map _
theorem prs_all (l : List (Int × Int)) : All 2 (prs l) := fun x hx => by
  obtain ⟨i, _, rfl⟩ := List.mem_map.1 hx
  rfl
theorem prs_inj {l m : List (Int × Int)} : prs l = prs m ↔ l = m := by
  constructor
  · intro h
    have := congrArg (List.map fun x : List Int => (ix x 0, ix x 1)) h
    unfold prs at this
    rw [List.map_map, List.map_map] at this
    have e : ((fun x : List Int => (ix x 0, ix x 1)) ∘ fun i : Int × Int => [i.1, i.2]) = id := rfl
    rw [e, List.map_id, List.map_id] at this
    exact this
  · rintro rfl; rfl
theorem cellsP_prs (l : List (Int × Int)) : cellsP l = cellsL (prs l) := by
  unfold cellsP cellsL prs
  rw [List.flatMap_map]
  rfl
theorem cellsV_prs (k : List Lc) : cellsV (iV k) = cellsL (prs (k.map Lc.i)) := by
  induction k with
  | nil => rfl
  | cons e k ih =>
    show (_ : List Value) ++ cellsV (iV k) = _
    rw [ih]
    rfl
/-- A value is a slice of these instances. -/
def LsI (w : World) (v : Value) (l : List (Int × Int)) : Prop := ∃ A c, v = .slice A l.length c ∧ Its 2 w A (prs l)
theorem LsI.below {w w' : World} {v : Value} {l : List (Int × Int)} (h : LsI w v l) (hb : Below w.heap.size w w') : LsI w' v l := by
  obtain ⟨A, c, e, hi⟩ := h
  exact ⟨A, c, e, hi.below hb⟩
theorem own_ls {w : World} {base : Nat} {v : Value} {l : List (Int × Int)} {e : TypeId} (h : w.ownsRow base e 2 v l.length (cellsP l)) : LsI w v l := by
  have h' := h
  rcases h.2 with ⟨rfl, h0⟩ | ⟨g, cap, cur, rfl, _⟩
  · have e : l = [] := List.eq_nil_of_length_eq_zero h0
    subst e
    exact ⟨none, 0, rfl, Its.nil_⟩
  · rw [cellsP_prs] at h'
    exact ⟨_, _, rfl, (its_own h' (prs_all l) (by decide)).1⟩
theorem rw_ls {w : World} {base : Nat} {v : Value} {k : List Lc} {e : TypeId} (h : Rw base e 2 w v (iV k)) : LsI w v (k.map Lc.i) := by
  have hl : (iV k).length = (k.map Lc.i).length := by unfold iV; rw [List.length_map, List.length_map]
  unfold Rw at h
  rw [hl, cellsV_prs, ← cellsP_prs] at h
  exact own_ls h
theorem same_ls {w : World} {v u : Value} {l m : List (Int × Int)} (hv : LsI w v l) (hu : LsI w u m) (ln : l.length ≤ 4611686018427387904) (lm : m.length ≤ 4611686018427387904) :
    Calls Tryz.prog 13 #[v, u] w fun e w' => e = .returned (.bool (decide (l = m))) ∧ Below w.heap.size w w' := by
  obtain ⟨A, c, rfl, hi⟩ := hv
  obtain ⟨B, d, rfl, hj⟩ := hu
  refine (same_inst A B l.length m.length c d (prs l) (prs m) w (prs_len l) (prs_len m) (prs_all l) (prs_all m) hi hj ln lm).mono ?_
  rintro e w' ⟨rfl, q, rfl⟩
  refine ⟨?_, kept_drewN (kept_refl w) q⟩
  rw [show decide (prs l = prs m) = decide (l = m) from decide_eq_decide.2 prs_inj]
theorem plist_all {g b : Nat} {w : World} {x : Lw} (h : Pg w g b x) (hl : x.k.length ≤ 1000000000) :
    Calls Tryz.prog 11 #[.pointer (some ⟨g, 0, none⟩)] w fun e w' => ∃ v, e = .returned v ∧ LsI w' v (x.k.map Lc.i) ∧ Below w.heap.size w w' := by
  have hs : x.k = [] ∨ SortOk x.k.length := by
    cases hk : x.k with
    | nil => exact .inl rfl
    | cons e k => exact .inr (sort_ok _ (by simp) (by rw [hk] at hl; omega))
  refine (plist_any h hs hl).mono ?_
  rintro e w' ⟨v, rfl, h1, _, h3⟩
  exact ⟨v, rfl, own_ls h1, h3⟩
end Go.Proofs.YtiaegloipnhhdaaGreat
