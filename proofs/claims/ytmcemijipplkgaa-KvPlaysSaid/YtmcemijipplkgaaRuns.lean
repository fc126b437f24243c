/- Chapter 11's runs. No condition. -/
import Derived.Test.YtmcemijipplkgaaPut
import Derived.Test.YtmcemijipplkgaaDel
import Derived.Test.YtmcemijipplkgaaRg
import Derived.Test.YtmcemijipplkgaaRo
import Derived.Test.YtmcemijipplkgaaUp
import Derived.Laws.IdiomStrings
namespace Go.Proofs.Ytmcemijipplkgaa
open Go.RowKit
def tA : ByteArray := { data := #[97] }
def tB : ByteArray := { data := #[98] }
theorem ltAB : ltB tA tB = true := by unfold ltB tA tB; rw [ByteArray.toList_eq, ByteArray.toList_eq]; decide
theorem ltBA : ltB tB tA = false := lt_not ltAB
theorem neAB : eqB tA tB = false := by unfold eqB tA tB; rw [ByteArray.toList_eq, ByteArray.toList_eq]; decide
theorem neBA : eqB tB tA = false := by unfold eqB tA tB; rw [ByteArray.toList_eq, ByteArray.toList_eq]; decide
theorem eqB_refl (a : ByteArray) : eqB a a = true := (eq_iff _ _).2 rfl
theorem put1 (x : ByteArray) : putL [] tB x = [⟨tB, x, 1⟩] ∧ putE [] tB = 0 := by
  constructor <;> simp [putL, putE, fullB, putP, verP, behP, isB, st]
theorem put2 (x y : ByteArray) : putL [⟨tB, x, 1⟩] tA y = [⟨tA, y, 1⟩, ⟨tB, x, 1⟩] ∧ putE [⟨tB, x, 1⟩] tA = 0 := by
  constructor <;> simp [putL, putE, fullB, putP, verP, behP, isB, st, ltBA, neBA]
theorem put3 (x y z : ByteArray) : putL [⟨tA, y, 1⟩, ⟨tB, x, 1⟩] tB z = [⟨tA, y, 1⟩, ⟨tB, z, 2⟩] ∧ putE [⟨tA, y, 1⟩, ⟨tB, x, 1⟩] tB = 0 := by
  have hw : IntKind.i64.wrap 2 = 2 := by rw [IntKind.wrap_i64]; omega
  constructor <;> simp [putL, putE, fullB, putP, verP, behP, isB, getP, st, ltAB, lt_self, eqB_refl, hw]
theorem del3 (y z : ByteArray) : delP [⟨tA, y, 1⟩, ⟨tB, z, 2⟩] tA = [⟨tB, z, 2⟩] ∧ isB [⟨tA, y, 1⟩, ⟨tB, z, 2⟩] tA = true := by
  constructor <;> simp [delP, isB, st, lt_self, eqB_refl]
theorem get3 (z : ByteArray) : isB [⟨tB, z, 2⟩] tA = false ∧ getP [⟨tB, z, 2⟩] tA = zeroP := by
  constructor <;> simp [getP, isB, st, ltBA, neBA]
def keyT (k : Nat) : ByteArray := { data := #[UInt8.ofNat (97 + k)] }
def tenL (k : Nat) : List Pr := (List.range k).map fun j => ⟨keyT j, nilT, 1⟩
theorem conv_key {k : Nat} (hk : k < 10) (w : World) : (convert 32 9 (.slice (some ⟨w.heap.size, 0, none⟩) 1 1)).run Try.prog (w.alloc (.cells #[.int .u8 (97 + (k : Int))] 5)) = .ok (.string (keyT k)) (w.alloc (.cells #[.int .u8 (97 + (k : Int))] 5)) := by
  refine run_convert_bytes_back (P := Try.prog) _ 32 9 5 ⟨w.heap.size, 0, none⟩ 1 [UInt8.ofNat (97 + k)] Try.underlying32 Try.underlying5 Try.underlying9 fun j hj => ?_
  obtain rfl : j = 0 := Nat.lt_one_iff.1 hj
  have h1 := (Row.new w 5 #[.int .u8 (97 + (k : Int))]).cell 0
  refine h1.trans ?_
  have h2 : (UInt8.ofNat (97 + k)).toNat = 97 + k := by rw [UInt8.toNat_ofNat']; omega
  show some (Value.int .u8 (97 + (k : Int))) = some (.int .u8 ((UInt8.ofNat (97 + k)).toNat : Int))
  rw [h2]
  congr 2
theorem key_lt {j k : Nat} (hj : j < k) (hk : k < 10) : ltB (keyT j) (keyT k) = true := by
  have h1 : UInt8.ofNat (97 + j) < UInt8.ofNat (97 + k) := by
    rw [UInt8.lt_iff_toNat_lt, UInt8.toNat_ofNat', UInt8.toNat_ofNat']; omega
  unfold ltB keyT
  rw [ByteArray.toList_eq, ByteArray.toList_eq]
  generalize UInt8.ofNat (97 + j) = x at h1 ⊢
  generalize UInt8.ofNat (97 + k) = y at h1 ⊢
  simp [Op.bytesLess, h1]
theorem ten_at {j k : Nat} (h : j < k) : (tenL k)[j]? = some ⟨keyT j, nilT, 1⟩ := by
  unfold tenL
  rw [List.getElem?_map, List.getElem?_range h]; rfl
theorem ten_len (k : Nat) : (tenL k).length = k := by unfold tenL; rw [List.length_map, List.length_range]
theorem ten_put {k : Nat} (hk : k < 10) : putL (tenL k) (keyT k) nilT = tenL (k + 1) ∧ putE (tenL k) (keyT k) = 0 := by
  have hst : st (tenL k) (keyT k) = k := st_is (fun i hi => ⟨_, ten_at hi, key_lt hi hk⟩) (fun p hp => by rw [List.getElem?_eq_none (by rw [ten_len]; exact Nat.le_refl _)] at hp; cases hp)
  have hb : isB (tenL k) (keyT k) = false := by
    unfold isB
    rw [hst, List.getElem?_eq_none (by rw [ten_len]; exact Nat.le_refl _)]
  have hf : fullB (tenL k) (keyT k) = false := by
    unfold fullB
    rw [hb, ten_len, decide_eq_false (by omega)]; rfl
  constructor
  · unfold putL
    rw [if_neg (by rw [hf]; simp)]
    rw [put_new (X := tenL k) (Y := []) hb (List.append_nil _).symm (by rw [hst, ten_len])]
    unfold tenL
    rw [List.range_succ, List.map_append]; rfl
  · unfold putE; rw [if_neg (by rw [hf]; simp)]
theorem ten_rng : (rngP (tenL 10) nilT nilT).length = 8 ∧ moreB (tenL 10) nilT nilT = true := by
  have e : inP (tenL 10) nilT nilT = tenL 10 := by
    unfold inP
    rw [List.filter_eq_self]
    intro p _
    unfold hasB inB
    rw [lt_nil]
    have : nilB nilT = true := by unfold nilB; rw [nil_list]; rfl
    rw [this]; rfl
  unfold rngP moreB
  rw [e, List.length_take, ten_len]
  exact ⟨rfl, rfl⟩
/-- The two pairs of the runs. -/
def twoL (two thr : ByteArray) : List Pr := [⟨tA, two, 1⟩, ⟨tB, thr, 2⟩]
theorem prs_two (w : World) (p q : Pr) (t : TypeId) : Prs (w.alloc (.cells #[.string p.k, .string p.v, .int .i64 p.n, .string q.k, .string q.v, .int .i64 q.n] t)) (some ⟨w.heap.size, 0, none⟩) [p, q] :=
  els_row (l := prV [p, q]) (Row.new w t _) (prV_all _) (by simp [prV, cellsV, Pr.l])
theorem Mine.slice {base n : Nat} {w : World} {v : Value} {l : List Pr} (h : Mine base w v l) (hn : l.length = n) : ∃ A c, v = .slice A n c ∧ Prs w A l := by
  obtain ⟨A, c, e, _, _, _, hl⟩ := h.pin
  exact ⟨A, c, by rw [e, hn], hl⟩
set_option maxRecDepth 100000 in
set_option maxHeartbeats 4000000 in
theorem runs_any (w : World) : Calls Try.prog 3 #[] w fun e w' => e = .returned (.bool true) ∧ Below w.heap.size w w' := by
  have hA : ({ data := #[97] } : ByteArray) = tA := rfl
  have hB : ({ data := #[98] } : ByteArray) = tB := rfl
  have hN : ({ data := #[] } : ByteArray) = nilT := rfl
  obtain ⟨one, h1⟩ : ∃ t, ({ data := #[49] } : ByteArray) = t := ⟨_, rfl⟩
  obtain ⟨two, h2⟩ : ∃ t, ({ data := #[50] } : ByteArray) = t := ⟨_, rfl⟩
  obtain ⟨thr, h3⟩ : ∃ t, ({ data := #[51] } : ByteArray) = t := ⟨_, rfl⟩
  have C1 := hide (fun w => by have h := put_any (.slice none 0 0) [] tB one w (Pin.nil_ w) (by simp); rw [(put1 one).1, (put1 one).2] at h; exact h)
  go_enter Try.func3, Try.ntmps3
  go_upto_region 2 with (go_at_call 9; (with_reducible refine (C1.out _).mono ?_); rintro e w1 ⟨v1, rfl, ho1, hb1⟩; have O1 := hide ho1; have B1 := hide hb1; clear ho1 hb1)
  have C2 := hide (by have h := put_any v1 _ tA two w1 O1.out.pin (by simp); rw [(put2 one two).1, (put2 one two).2] at h; exact h)
  clear C1
  go_upto_region 3 with (go_at_call 9; (with_reducible refine C2.out.mono ?_); rintro e w2 ⟨v2, rfl, ho2, hb2⟩; have O2 := hide (ho2.mono B1.out.size); have B2 := hide (kept_trans B1.out hb2); clear ho2 hb2)
  clear C2 B1 O1
  have C3 := hide (by have h := put_any v2 _ tB thr w2 O2.out.pin (by simp); rw [(put3 one two thr).1, (put3 one two thr).2] at h; exact h)
  go_upto_region 4 with (go_at_call 9; (with_reducible refine C3.out.mono ?_); rintro e w3 ⟨v3, rfl, ho3, hb3⟩; have O3 := hide (ho3.mono B2.out.size); have B3 := hide (kept_trans B2.out hb3); clear ho3 hb3)
  clear C3 B2 O2
  have C4 := hide (by have h := del_any v3 _ tA w3 O3.out.pin (by simp); rw [(del3 two thr).1, (del3 two thr).2] at h; exact h)
  go_upto_region 5 with (go_at_call 10; (with_reducible refine C4.out.mono ?_); rintro e w4 ⟨v4, rfl, ho4, hb4⟩; have O4 := hide (ho4.mono B3.out.size); have O34 := hide (O3.out.below hb4); have B4 := hide (kept_trans B3.out hb4); clear ho4 hb4)
  clear C4 B3 O3
  have C5 := hide (by have h := get_any v4 _ tA w4 O4.out.pin (by simp); rw [(get3 thr).1, (get3 thr).2] at h; exact h)
  go_upto_region 6 with (go_at_call 11; (with_reducible refine C5.out.mono ?_); rintro e w5 ⟨rfl, hb5⟩; have O35 := hide (O34.out.below hb5); have B5 := hide (kept_trans B4.out hb5); clear hb5)
  have O6 := hide (O35.out.below (kept_alloc (kept_refl w5) (.cells #[.string zeroP.k, .string zeroP.v, .int .i64 zeroP.n] 29)))
  have B6 := hide (kept_alloc B5.out (.cells #[.string zeroP.k, .string zeroP.v, .int .i64 zeroP.n] 29))
  clear C5 O34 O35 O4 B4 B5
  generalize w5.alloc (.cells #[.string zeroP.k, .string zeroP.v, .int .i64 zeroP.n] 29) = w6 at O6 B6 ⊢
  go_wp2
  go_loopw [9, 10] (fun v i wr => ∃ (k : Nat) (vv : Value), k ≤ 10 ∧ i = .int .i64 k ∧ vv = v ∧ Hid (Mine w.heap.size wr vv (tenL k)) ∧ Hid (Mine w.heap.size wr v3 (twoL two thr)) ∧ Hid (Below w.heap.size w wr)) (fun _ i _ => 10 - (intOf i).toNat)
  case atStart => exact ⟨0, _, by omega, rfl, rfl, Mine.nil_ _ _, O6, B6⟩
  case round =>
    obtain ⟨k, vv, hk, rfl, rfl, OT, O3, B⟩ := hrel
    by_cases hlt : k < 10
    · have hlt' : (k : Int) < 10 := by omega
      have hcv := conv_key hlt wr
      have HP := hide (by have h := fun w h => put_any vv (tenL k) (keyT k) nilT w h (by rw [ten_len]; omega); rw [(ten_put hlt).1, (ten_put hlt).2] at h; exact h)
      have kb := kept_alloc (kept_refl wr) (.cells #[.int .u8 (97 + (k : Int))] 5)
      have HPX := hide (OT.out.pin.below kb)
      have O3a := hide (O3.out.below kb)
      have Ba := hide (kept_alloc B.out (.cells #[.int .u8 (97 + (k : Int))] 5))
      clear kb OT O3 B O6 B6
      go_wp2_with (go_at_call 9; (with_reducible refine (HP.out _ HPX.out).mono ?_); rintro e w7 ⟨v7, rfl, ho7, hb7⟩; have O7 := hide (ho7.mono Ba.out.size); have O37 := hide (O3a.out.below hb7); have B7 := hide (kept_trans Ba.out hb7); clear ho7 hb7)
      go_roundw
      case rel => exact ⟨k + 1, _, by omega, by go_num, rfl, O7, O37, B7⟩
      case measure => simp [intOf]; omega
    · obtain rfl : k = 10 := by omega
      clear O6 B6
      have HR := hide (range_any vv (tenL 10) nilT nilT wr OT.out.pin (by rw [ten_len]; omega))
      go_upto_region 12 with (go_at_call 12; (with_reducible refine HR.out.mono ?_); rintro e w8 ⟨v8, rfl, ho8, hb8⟩; have O8 := hide ho8; have O38 := hide (O3.out.below hb8); have B8 := hide (kept_trans B.out hb8); clear ho8 hb8)
      obtain ⟨A3, c3, rfl, hp3⟩ := O38.out.slice (n := 2) rfl
      obtain ⟨A8, c8, rfl, hp8⟩ := O8.out.slice (n := 8) ten_rng.1
      have hm := ten_rng.2
      have HL := prs_two w8 ⟨tA, two, 1⟩ ⟨tB, thr, 2⟩ 29
      have kb := kept_alloc (kept_refl w8) (.cells #[.string tA, .string two, .int .i64 1, .string tB, .string thr, .int .i64 2] 29)
      have HS := hide (by have h := same_any A3 (some ⟨w8.heap.size, 0, none⟩) 2 2 c3 2 (twoL two thr) [⟨tA, two, 1⟩, ⟨tB, thr, 2⟩] (w8.alloc (.cells #[.string tA, .string two, .int .i64 1, .string tB, .string thr, .int .i64 2] 29)) rfl rfl (hp3.below kb) HL (by omega) (by omega); rw [decide_eq_true (show twoL two thr = [⟨tA, two, 1⟩, ⟨tB, thr, 2⟩] from rfl)] at h; exact h)
      have B9 := hide (kept_trans B8.out kb)
      clear HL kb hp3 hp8 HR O8 O38 OT O3 B
      go_wp2_with (go_at_call 13; (with_reducible refine HS.out.mono ?_); rintro e w9 ⟨rfl, q9, rfl⟩)
      go_ret
      exact ⟨rfl, kept_drewN B9.out _⟩
end Go.Proofs.Ytmcemijipplkgaa
