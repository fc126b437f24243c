/- Proved: the law DedupKept returns true: a reply's pairs that were noted, or told, may be turned later. No condition. -/
import Derived.Test.YtjadbppcjndmlaaFrame
import Derived.Test.YtjadbppcjndmlaaTu
import Derived.Deep.DeepCutAuto
namespace Go.Proofs.Ytjadbppcjndmlaa.dedupKept
open Go.ChangeShapes Go.WideShapes Go.ChangeAt Go.RowKit
set_option maxRecDepth 100000 in
set_option maxHeartbeats 8000000 in
theorem walk (r : Re) (A : Option Addr) (q : Nat) (a : Int) (W : World) (hr : ReOk W r A q) (_ : -9223372036854775808 ≤ a ∧ a ≤ 9223372036854775807) :
    Calls Try.prog 6 #[.agg #[.int .i64 r.why, .bool r.fnd, .string r.val, .int .i64 r.ver, .slice A r.l.length q], .int .i64 a] W fun e w' => e = .returned (.bool true) ∧ Below W.heap.size W w' := by
  have HX := hide (fun w => within_any a 1 8 w (by omega) (by omega) (by omega))
  have bx := hide (withinI_bounds a 1 8 (by omega))
  generalize withinI a 1 8 = x at HX bx
  obtain ⟨A', q', e, hA, hq, hqq, hl⟩ := hr.ps.pin
  cases e
  clear hr
  obtain ⟨l, el⟩ : ∃ l, r.l.take 20 = l := ⟨_, rfl⟩
  have hll : l.length = min 20 r.l.length := by rw [← el, List.length_take]
  have HP := hide (show Pin W (.slice A l.length q) l from ⟨A, q, rfl, hA, by omega, hqq, by have := hl.take 20; rwa [el] at this⟩)
  have l20 := hide (show l.length ≤ 20 by omega)
  have R0 := Row.new W 25 #[.int .i64 r.why, .bool r.fnd, .string r.val, .int .i64 r.ver, .slice A r.l.length q]
  have HB := hide (kept_alloc (kept_refl W) (.cells #[.int .i64 r.why, .bool r.fnd, .string r.val, .int .i64 r.ver, .slice A r.l.length q] 25))
  clear hl hA hqq
  go_enter Try.func6, Try.ntmps6
  go_upto_region 1 with (fail)
  generalize W.alloc (.cells #[.int .i64 r.why, .bool r.fnd, .string r.val, .int .i64 r.ver, .slice A r.l.length q] 25) = w1 at R0 HB ⊢
  obtain ⟨c0, c1, c2, c3, c4⟩ := R0.five
  have f4 := R0.free 4
  have HR := hide R0
  have HLL := hide hll
  clear R0 hll el
  go_upto_if 20 with (fail)
  go_cut [21] (fun _ wx => Row wx W.heap.size 25 #[.int .i64 r.why, .bool r.fnd, .string r.val, .int .i64 r.ver, .slice A l.length q] ∧ Below W.heap.size W wx)
  case first =>
    by_cases h20 : 20 < r.l.length
    · have hb : decide ((20 : Int) < (r.l.length : Int)) = true := by simp; omega
      have hcap : (20 : Int) ≤ (q : Int) := by omega
      have hn : l.length = 20 := by have := HLL.out; omega
      have HS := hide (HR.out.put 4 (.slice A 20 q))
      have HN := hide hn
      clear hn
      go_wp2
      go_meet
      rw [HN.out]
      exact ⟨HS.out, HB.out.setCell (p := ⟨W.heap.size, 4, none⟩) (Nat.le_refl _) _⟩
    · have hb : decide ((20 : Int) < (r.l.length : Int)) = false := by simp; omega
      have hn : r.l.length = l.length := by have := HLL.out; omega
      rw [hn] at HR
      go_wp2
      go_meet
      exact ⟨HR.out, HB.out⟩
  case rest =>
    obtain ⟨R2, HB2⟩ := hcut
    clear c0 c1 c2 c3 c4 f4 HR HB
    have R2 := hide R2
    have HB := hide HB2
    clear HB2
    go_upto_region 5 with (go_at_call 15; (with_reducible refine (HX.out _).mono ?_); rintro e w2 ⟨rfl, rfl⟩)
    rw [zero_arr]
    have kb := kept_alloc (kept_refl wc) (.cells (arr zeroL) 28)
    have RZ := hide (Row.new wc 28 (arr zeroL))
    have R2 := hide (R2.out.below kb R2.out.lt)
    have HB := hide (kept_trans HB.out kb)
    clear kb
    generalize wc.alloc (.cells (arr zeroL) 28) = w4 at RZ R2 HB ⊢
    generalize wc.heap.size = g1 at RZ ⊢
    obtain ⟨c0, c1, c2, c3, c4⟩ := R2.out.five
    go_upto_region 6 with (fail)
    have kb := kept_alloc (kept_refl w4) (.cells #[.int .i64 r.why, .bool r.fnd, .string r.val, .int .i64 r.ver, .slice A l.length q] 25)
    have R2o := R2
    have RZo := RZ
    have R7 := hide (Row.new w4 25 #[.int .i64 r.why, .bool r.fnd, .string r.val, .int .i64 r.ver, .slice A l.length q])
    have RZ := hide (RZ.out.below kb RZ.out.lt)
    have R2 := hide (R2.out.below kb R2.out.lt)
    have HB := hide (kept_trans HB.out kb)
    have h02 : W.heap.size < w4.heap.size := R2o.out.lt
    have h12 : g1 < w4.heap.size := RZo.out.lt
    clear kb c0 c1 c2 c3 c4 R2o RZo
    generalize w4.alloc (.cells #[.int .i64 r.why, .bool r.fnd, .string r.val, .int .i64 r.ver, .slice A l.length q] 25) = w5 at R7 RZ R2 HB ⊢
    generalize w4.heap.size = g2 at R7 h02 h12 ⊢
    have g0 := R2.out.lt
    have g2l := R7.out.lt
    obtain ⟨i0, hi, hz0, hz1, hz2⟩ := pair_parts
    obtain ⟨c0, c1, c2, c3, c4⟩ := R2.out.five
    have k0 := kept_alloc (kept_refl w5) (.cells #[] 49)
    have HP5 := hide ((HP.out.below HB.out).below k0)
    have HO := hide (show (w5.alloc (.cells #[] 49)).ownsRow w5.heap.size 49 3 (.slice (some ⟨w5.heap.size, 0, none⟩) 0 0) 0 (cellsV []) from World.ownsRow_lit w5 #[] 0 (Nat.le_refl _) (Nat.zero_le _) rfl)
    have L20 := l20.out
    go_upto_region 7 with (at_builtin; refine wpList_append_els rfl (.tmp 28) (.tmp 30) 23 rfl w5.heap.size 49 i0 _ 40 under_pairs hi hz0 hz1 hz2 (by omega) rfl _ 0 [] rfl HO.out A l.length q (prV l) rfl (prV_all _) (prV_len _) (pin_nil HP5.out) (pin_lies HP5.out) (by omega) (by omega) k0.size ?_; intro v6 w6 ho6 hb6; rw [Nat.zero_add] at ho6; obtain ⟨A6, c6, rfl, _, _, _, _⟩ := own_form ho6; have S7 := (R7.out.below k0 g2l).grown hb6 (fun e => absurd (Option.some.inj (show some g2 = some w5.heap.size from e)) (Nat.ne_of_lt g2l)); obtain ⟨d0, d1, d2, d3, d4⟩ := S7.five; have f4 := S7.free 4)
    have B6 := (k0.trans (show Below w5.heap.size (w5.alloc (.cells #[] 49)) w6 from (Below.refl _ _).grown hb6 k0.size (fun k hk => by rw [← Option.some.inj (show some w5.heap.size = some k from hk)]; exact Nat.le_refl _)))
    have S2 := R2.out.below B6 g0
    have SZ := RZ.out.below B6 RZ.out.lt
    have T7 := S7.put 4 (.slice A6 l.length c6)
    have T2 := S2.same (Below.heap_setCell w6 ⟨g2, 4, none⟩ (.slice A6 l.length c6) W.heap.size (by show W.heap.size ≠ g2; omega))
    have TZ := SZ.same (Below.heap_setCell w6 ⟨g2, 4, none⟩ (.slice A6 l.length c6) g1 (by show g1 ≠ g2; omega))
    have HM6 := hide ((show Mine w5.heap.size w6 (.slice A6 l.length c6) l from ho6).put g2l 4 (.slice A6 l.length c6))
    have HB7 := hide ((HB.out.trans (B6.mono (Nat.le_of_lt g0))).setCell (p := ⟨g2, 4, none⟩) (Nat.le_of_lt h02) (.slice A6 l.length c6))
    have hsz : w5.heap.size ≤ (w6.setCell ⟨g2, 4, none⟩ (.slice A6 l.length c6)).heap.size := by have := B6.size; simpa [World.setCell] using this
    have R2 := hide T2
    have RZ := hide TZ
    have R7 := hide T7
    clear S2 SZ T2 TZ T7 hb6 ho6 S7 d0 d1 d2 d3 d4 f4 k0 HP5 HO c0 c1 c2 c3 c4 hi hz0 hz1 hz2 HB B6
    generalize (w6.setCell ⟨g2, 4, none⟩ (.slice A6 l.length c6)) = w7 at R2 RZ R7 HM6 HB7 hsz ⊢
    generalize w5.heap.size = b5 at HM6 hsz g0 g2l ⊢
    obtain ⟨d0, d1, d2, d3, d4⟩ := Row.five (R7.out.same rfl)
    have HPM := hide HM6.out.pin
    have HT := hide (show Calls Try.prog 8 #[.agg (arr zeroL), .int .i64 x, .int .i64 1, .agg #[.int .i64 r.why, .bool r.fnd, .string r.val, .int .i64 r.ver, .slice A6 l.length c6]] w7 (AnsN w7 (noteO (ows zeroL) x 1 ⟨r.why, r.fnd, r.val, r.ver, l⟩)) from note_any zeroL x 1 ⟨r.why, r.fnd, r.val, r.ver, l⟩ A6 c6 w7 (zero_fine w7) HPM.out (by have := l20.out; show l.length ≤ _; omega))
    have hr7 := R7.out.lt
    have hr2 := R2.out.lt
    have lr2 := hide (show l.length ≤ 3518437208780 by have := l20.out; omega)
    go_upto_region 9 with (first | ((with_reducible refine wpList_load8 ?_ RZ.out (show zeroL.length = 8 from rfl) ?_); rfl) | (go_at_call 8; (with_reducible refine HT.out.mono ?_); rintro e w8 ⟨M, rfl, hM, h8, hf, hb⟩) | ((with_reducible refine wpList_store8n ?_ ?_ h8 ?_); rfl; rfl))
    have kb := kept_alloc (kept_refl w8) (.cells (arr M) 28)
    have RM := Row.new w8 28 (arr M)
    have hg3 : b5 ≤ w8.heap.size := Nat.le_trans hsz hb.size
    have g37 : w7.heap.size ≤ w8.heap.size := hb.size
    have R2 := hide ((R2.out.below hb hr2).below kb (R2.out.below hb hr2).lt)
    have R7 := hide (((show Row w7 g2 25 #[.int .i64 r.why, .bool r.fnd, .string r.val, .int .i64 r.ver, .slice A6 l.length c6] from R7.out).below hb hr7).below kb (R7.out.below hb hr7).lt)
    have HM9 := hide ((HM6.out.below hb).below kb)
    have hf9 : ∀ y, y ∈ M → Mine w7.heap.size (w8.alloc (.cells (arr M) 28)) y.p y.o.r.l := fun y hy => (hf y hy).below kb
    have HB9 := hide (HB7.out.trans ((hb.mono (Nat.le_of_lt hr2)).trans (kb.mono (Nat.le_trans (Nat.le_of_lt hr2) g37))))
    have hlt9 : ∀ k, (Value.slice A6 l.length c6).ownBlock = some k → b5 ≤ k ∧ k < w7.heap.size := HM6.out.blk
    clear d0 d1 d2 d3 d4 HT RZ HM6 HPM hb kb hf HB7
    generalize w8.alloc (.cells (arr M) 28) = w9 at RM R2 R7 HM9 hf9 HB9 ⊢
    generalize w8.heap.size = g3 at RM hg3 g37 ⊢
    obtain ⟨d0, d1, d2, d3, d4⟩ := R7.out.five
    have H8 := hide h8
    have HO := hide hM
    have HF9 := hide hf9
    have RM := hide RM
    have HTU := hide (turn_mine HM9.out (by have := lr2.out; omega))
    clear hM hf9 h8
    go_upto_region 10 with (go_at_call 16; (with_reducible refine HTU.out.mono ?_); rintro e w10 ⟨rfl, hb⟩)
    have RM := hide (RM.out.grown hb (fun e => by have := (hlt9 g3 e.symm).2; omega))
    have R2 := hide (R2.out.grown hb (fun e => by have := (hlt9 W.heap.size e.symm).1; omega))
    have FM := hide (fine_mine (fun y hy => (HF9.out y hy).apart hb (fun k hk => (hlt9 k hk).2)) HO.out H8.out (note_room zero_room lr2.out))
    have HB := hide (HB9.out.trans (grown_from (b := W.heap.size) hb (fun k hk => Nat.le_trans (Nat.le_of_lt g0) (hlt9 k hk).1) HB9.out.size))
    clear d0 d1 d2 d3 d4 HTU R7 HM9 HF9 HB9 hlt9 hb
    have hl1 : lookO (ows M) x 1 = (2, ⟨r.why, r.fnd, r.val, r.ver, l⟩) := by rw [HO.out, look_self rfl bx.out, seen2]
    have HL := hide (show Calls Try.prog 12 #[.agg (arr M), .int .i64 x, .int .i64 1] w10 (fun e w' => ∃ p, e = .returned (.tuple #[.int .i64 2, .agg #[.int .i64 r.why, .bool r.fnd, .string r.val, .int .i64 r.ver, p]]) ∧ Mine w10.heap.size w' p l ∧ Below w10.heap.size w10 w') from by have h := look_any M x 1 w10 FM.out; rw [hl1] at h; exact h)
    clear hl1
    go_upto_region 11 with (first | ((with_reducible refine wpList_load8 ?_ RM.out H8.out ?_); rfl) | (go_at_call 12; (with_reducible refine HL.out.mono ?_); rintro e w11 ⟨p, rfl, ho, hb⟩; obtain ⟨A11, c11, rfl, _, _, _, _⟩ := ho.pin))
    have kb := kept_alloc (kept_refl w11) (.cells #[.int .i64 r.why, .bool r.fnd, .string r.val, .int .i64 r.ver, .slice A11 l.length c11] 25)
    obtain ⟨d0, d1, d2, d3, d4⟩ := (Row.new w11 25 #[.int .i64 r.why, .bool r.fnd, .string r.val, .int .i64 r.ver, .slice A11 l.length c11]).five
    have HTU := hide (turn_mine (ho.below kb) (by have := lr2.out; omega))
    have hlt : ∀ k, (Value.slice A11 l.length c11).ownBlock = some k → w10.heap.size ≤ k ∧ k < w11.heap.size := ho.blk
    have B12 := hb.trans (kb.mono hb.size)
    clear HL hb kb ho
    generalize w11.alloc (.cells #[.int .i64 r.why, .bool r.fnd, .string r.val, .int .i64 r.ver, .slice A11 l.length c11] 25) = w12 at d0 d1 d2 d3 d4 HTU B12 ⊢
    generalize w11.heap.size = g11 at d0 d1 d2 d3 d4 hlt ⊢
    go_upto_region 12 with (go_at_call 16; (with_reducible refine HTU.out.mono ?_); rintro e w13 ⟨rfl, hb⟩)
    have B13 := B12.trans (grown_from (b := w10.heap.size) hb (fun k hk => (hlt k hk).1) B12.size)
    have RM := hide (RM.out.below B13 RM.out.lt)
    have R2 := hide (R2.out.below B13 R2.out.lt)
    have FM := hide (FM.out.below B13)
    have HB := hide (kept_trans HB.out (B13.mono (Nat.le_refl _)))
    clear d0 d1 d2 d3 d4 HTU hlt B12 hb B13
    have x1 := bx.out.1
    have x8 := bx.out.2
    have HT := hide (show Calls Try.prog 8 #[.agg (arr M), .int .i64 (x % 8 + 1), .int .i64 1, .agg #[.int .i64 0, .bool false, .string { data := #[] }, .int .i64 0, .slice none 0 0]] w13 (AnsN w13 (noteO (ows M) (x % 8 + 1) 1 zeroR)) from note_any M (x % 8 + 1) 1 zeroR none 0 w13 FM.out (Pin.nil_ w13) (Nat.zero_le _))
    go_upto_region 13 with (first | ((with_reducible refine wpList_load8 ?_ RM.out H8.out ?_); rfl) | (go_at_call 8; (with_reducible refine HT.out.mono ?_); rintro e w14 ⟨N, rfl, hN, n8, hf, hb⟩) | ((with_reducible refine wpList_store8n ?_ ?_ n8 ?_); rfl; rfl))
    have kb := kept_alloc (kept_refl w14) (.cells (arr N) 28)
    have RN := hide (Row.new w14 28 (arr N))
    have R2 := hide ((R2.out.below hb R2.out.lt).below kb (R2.out.below hb R2.out.lt).lt)
    have HB := hide (kept_trans HB.out (kept_trans hb kb))
    have N8 := hide n8
    have HQ := hide hN
    have FN := hide ((fine_mine hf hN n8 (note_room (fine_room FM.out) (Nat.zero_le _))).below kb)
    have hl1 : lookO (ows N) x 1 = (2, ⟨r.why, r.fnd, r.val, r.ver, l⟩) := by rw [hN, look_other (by omega) x1 (by omega), HO.out, look_self rfl bx.out, seen2]
    clear HT RM hN hf hb kb n8 x1 x8
    generalize w14.alloc (.cells (arr N) 28) = w15 at RN R2 HB FN ⊢
    generalize w14.heap.size = g12 at RN ⊢
    have HLL := hide (fun (wz : World) (f : Fine wz N) => show Calls Try.prog 12 #[.agg (arr N), .int .i64 x, .int .i64 1] wz (fun e w' => ∃ p, e = .returned (.tuple #[.int .i64 2, .agg #[.int .i64 r.why, .bool r.fnd, .string r.val, .int .i64 r.ver, p]]) ∧ Mine wz.heap.size w' p l ∧ Below wz.heap.size wz w') from by have h := look_any N x 1 wz f; rw [hl1] at h; exact h)
    clear hl1
    have HL := hide (HLL.out w15 FN.out)
    go_upto_region 14 with (first | ((with_reducible refine wpList_load8 ?_ RN.out N8.out ?_); rfl) | (go_at_call 12; (with_reducible refine HL.out.mono ?_); rintro e w16 ⟨p, rfl, ho, hb⟩; obtain ⟨A16, c16, rfl, _, _, _, _⟩ := ho.pin))
    have kb := kept_alloc (kept_refl w16) (.cells #[.int .i64 r.why, .bool r.fnd, .string r.val, .int .i64 r.ver, .slice A16 l.length c16] 25)
    obtain ⟨d0, d1, d2, d3, d4⟩ := (Row.new w16 25 #[.int .i64 r.why, .bool r.fnd, .string r.val, .int .i64 r.ver, .slice A16 l.length c16]).five
    have HTU := hide (turn_mine (ho.below kb) (by have := lr2.out; omega))
    have hlt : ∀ k, (Value.slice A16 l.length c16).ownBlock = some k → w15.heap.size ≤ k ∧ k < w16.heap.size := ho.blk
    have B17 := hb.trans (kb.mono hb.size)
    clear HL hb kb ho
    generalize w16.alloc (.cells #[.int .i64 r.why, .bool r.fnd, .string r.val, .int .i64 r.ver, .slice A16 l.length c16] 25) = w17 at d0 d1 d2 d3 d4 HTU B17 ⊢
    generalize w16.heap.size = g14 at d0 d1 d2 d3 d4 hlt ⊢
    go_upto_region 15 with (go_at_call 16; (with_reducible refine HTU.out.mono ?_); rintro e w18 ⟨rfl, hb⟩)
    have B18 := B17.trans (grown_from (b := w15.heap.size) hb (fun k hk => (hlt k hk).1) B17.size)
    have RN := hide (RN.out.below B18 RN.out.lt)
    have R2 := hide (R2.out.below B18 R2.out.lt)
    have FN := hide (FN.out.below B18)
    have HB := hide (kept_trans HB.out B18)
    clear d0 d1 d2 d3 d4 HTU hlt B17 hb B18
    have HL := hide (HLL.out w18 FN.out)
    go_upto_region 16 with (first | ((with_reducible refine wpList_load8 ?_ RN.out N8.out ?_); rfl) | (go_at_call 12; (with_reducible refine HL.out.mono ?_); rintro e w19 ⟨p, rfl, ho, hb⟩; obtain ⟨A19, c19, rfl, _, _, _, _⟩ := ho.pin))
    have kb := kept_alloc (kept_refl w19) (.cells #[.int .i64 r.why, .bool r.fnd, .string r.val, .int .i64 r.ver, .slice A19 l.length c19] 25)
    obtain ⟨d0, d1, d2, d3, d4⟩ := (Row.new w19 25 #[.int .i64 r.why, .bool r.fnd, .string r.val, .int .i64 r.ver, .slice A19 l.length c19]).five
    have PZ := ho.pin.below kb
    have B20 := hb.trans (kb.mono hb.size)
    have R2 := R2.out.below B20 R2.out.lt
    have HB := hide (kept_trans HB.out B20)
    clear HL hb kb ho B20 HLL RN FN
    generalize w19.alloc (.cells #[.int .i64 r.why, .bool r.fnd, .string r.val, .int .i64 r.ver, .slice A19 l.length c19] 25) = w20 at d0 d1 d2 d3 d4 PZ R2 HB ⊢
    generalize w19.heap.size = g16 at d0 d1 d2 d3 d4 ⊢
    obtain ⟨c0, c1, c2, c3, c4⟩ := R2.five
    have HE := hide (show Calls Try.prog 13 #[.agg #[.int .i64 r.why, .bool r.fnd, .string r.val, .int .i64 r.ver, .slice A19 l.length c19], .agg #[.int .i64 r.why, .bool r.fnd, .string r.val, .int .i64 r.ver, .slice A l.length q]] w20 (fun e w' => e = .returned (.bool true) ∧ Below w20.heap.size w20 w') from by
      have h := replies_any ⟨r.why, r.fnd, r.val, r.ver, l⟩ ⟨r.why, r.fnd, r.val, r.ver, l⟩ _ _ w20 PZ (HP.out.below HB.out) (by have := lr2.out; show l.length ≤ _; omega) (by have := lr2.out; show l.length ≤ _; omega)
      rw [decide_eq_true rfl] at h
      exact h)
    clear PZ R2
    go_wp2_with (first | (go_at_call 13; (with_reducible refine HE.out.mono ?_); rintro e w21 ⟨rfl, hb1⟩) | (go_at_call 3; (with_reducible refine (runs_any _).mono ?_); rintro e w22 ⟨rfl, hb2⟩))
    go_ret
    exact ⟨rfl, kept_trans HB.out (kept_trans hb1 hb2)⟩
set_option maxRecDepth 100000 in
theorem lifted (os : Os) (started : os.Started) (H : Type) (enc : TypeId × Value → H) :
    ReturnsInHanded {} Try.checked os 6 .any (Rows.dedupKeptSpec.pre6 enc Try.prog Try.f6 Rows.dedupKeptRow.domain false) (Rows.dedupKeptSpec.post enc Try.prog Try.f6 false true false false) := by
  refine returnsInHanded_of_change_sized (C := Try.checked) own started (by kernel_rfl) Try.func6
    (ChangeSpec.witness6 (enc := enc) (C := Try.checked) false ⟨#[], #[.agg #[.int .i64 0, .bool false, .string ⟨#[]⟩, .int .i64 0, .slice none 0 0], .int .i64 0], []⟩ 8 (by kernel_rfl) (by kernel_rfl) (by kernel_rfl) (by kernel_rfl)) ?_
  intro W base args ds gs before hval0 hW _ hsz0 _
  have hval : ∀ (j : Nat) t v, Try.f6.params[j]? = some t → args[j]? = some v → Value.okWide Try.prog W .any base t v := hval0
  have hW' := hW
  obtain ⟨p, q, hA0, hV, rfl, _, _⟩ := hW
  have hA : DataW.TrodAll enc Try.prog W 0 (fun _ => true) true Try.f6.params.toList args.toList ds p := hA0
  have hsz : (DataW.weightsEach Try.prog (Try.f6.params.toList ++ Rows.dedupKeptSpec.plain.varTypes Try.prog) (ds ++ gs)).all (· ≤ reachBytes) = true := hsz0
  rw [Try.params6] at hA hval hsz
  obtain ⟨v0, vs0, d0, ds0, p0, q0, hargs, rfl, rfl, h0, r0⟩ := trodAll_cons hA
  obtain ⟨v1, vs1, d1, ds1, p1, q1, rfl, rfl, rfl, h1, r1⟩ := trodAll_cons r0
  obtain ⟨rfl, rfl, rfl⟩ := trodAll_nil r1
  obtain rfl : args = #[v0, v1] := by cases args; simp_all
  obtain ⟨rfl, rfl⟩ := trodVars_none hV
  have k0 := h0
  have lt0 : ∀ x ∈ p0, x.block < W.heap.size := by obtain ⟨m, hm⟩ := k0; exact DataW.trod_lt m _ _ _ hm
  obtain ⟨x0, A0, c0, rfl, s0⟩ := reply_in (j := 0) (hval 0 25 v0 rfl rfl) h0 hsz rfl rfl
  obtain ⟨a1, rfl, rfl, rfl, w1⟩ := open_int Try.underlying3 (hval 1 3 v1 rfl rfl) h1
  clear hA0 hval0
  refine (walk x0 A0 c0 a1 W s0 (bounds_i64 w1)).mono fun e W' ⟨he, bel⟩ => ?_
  subst he
  exact ⟨_, rfl, _, _, _, [], _, [], hW', trodAll_mk1 (shut_bool Try.underlying4 _), (trodAll_cons_mk (Below.trod laidOut (by kernel_rfl) (of_decide_eq_true (by kernel_rfl)) k0 bel lt0) (trodAll_cons_mk (shut_int Try.underlying3 w1) trodAll_mk0)), rfl, bel.frame _, fun h => by cases h⟩
theorem over : Rows.dedupKeptRow.holds Try.pinned (OpenSpec.ofChange Rows.dedupKeptSpec) :=
  OpenClaim.holds_of_wide 6 Try.f6 rfl rfl rfl rfl rfl rfl rfl ⟨rfl, rfl, rfl, rfl, rfl⟩ rfl rfl rfl rfl rfl (by kernel_rfl) Try.func6 (by kernel_rfl)
    (of_decide_eq_true (by kernel_rfl)) (by unfold Func.isWrapper; first | (rw [if_pos (by decide +kernel)]; kernel_rfl) | (rw [if_neg (by decide +kernel)]; exact ⟨rfl, rfl⟩))
    (fun os started H enc _ => lifted os started H enc)
theorem proved : Rows.DedupKeptSaid := over
end Go.Proofs.Ytjadbppcjndmlaa.dedupKept
