/- The laws' found and is. Conditions: the lists of pairs lie in memory, none is great. -/
import Derived.Test.YtjadbppcjndmlaaNt
namespace Go.Proofs.Ytjadbppcjndmlaa
open Go.RowKit
def foundR : Re := ⟨0, true, nilT, 0, []⟩
theorem found_any (w : World) : Calls Try.prog 9 #[] w fun e w' => e = .returned (.agg #[.int .i64 0, .bool true, .string { data := #[] }, .int .i64 0, .slice none 0 0]) ∧ Below w.heap.size w w' := by
  go_enter Try.func9, Try.ntmps9
  go_wp2
  exact bodyPost_ret (results_row5 Try.results9 rfl (Row.new w 25 _)) rfl ⟨rfl, kept_alloc (kept_refl w) _⟩
/-- Is it this number, and this reply? -/
def isK (v : Int × Re) (n : Int) (r : Re) : Bool := decide (v.1 = n) && decide (v.2 = r)
set_option maxRecDepth 100000 in
set_option maxHeartbeats 4000000 in
theorem is_any (L : List Co) (c s n : Int) (r : Re) (A : Option Addr) (q : Nat) (w : World) (h : Fine w L) (hr : Pin w (.slice A r.l.length q) r.l) (ln : r.l.length ≤ 3518437208780) (lk : (lookO (ows L) c s).2.l.length ≤ 3518437208780) :
    Calls Try.prog 10 #[.agg (arr L), .int .i64 c, .int .i64 s, .int .i64 n, .agg #[.int .i64 r.why, .bool r.fnd, .string r.val, .int .i64 r.ver, .slice A r.l.length q]] w fun e w' => e = .returned (.bool (isK (lookO (ows L) c s) n r)) ∧ Below w.heap.size w w' := by
  have R0 := (Row.new w 28 (arr L)).alloc (.cells #[.int .i64 r.why, .bool r.fnd, .string r.val, .int .i64 r.ver, .slice A r.l.length q] 25)
  have R1 := Row.new (w.alloc (.cells (arr L) 28)) 25 #[.int .i64 r.why, .bool r.fnd, .string r.val, .int .i64 r.ver, .slice A r.l.length q]
  have hs : (w.alloc (.cells (arr L) 28)).heap.size = w.heap.size + 1 := by simp
  rw [hs] at R1
  have hb := kept_alloc (kept_alloc (kept_refl w) (.cells (arr L) 28)) (.cells #[.int .i64 r.why, .bool r.fnd, .string r.val, .int .i64 r.ver, .slice A r.l.length q] 25)
  have HF := hide (h.below hb)
  have HP := hide (hr.below hb)
  have HB := hide hb
  clear hb hs hr h
  obtain ⟨V, hV⟩ : ∃ V, lookO (ows L) c s = V := ⟨_, rfl⟩
  have HLL := hide (fun w2 (hf : Fine w2 L) => by have := look_any L c s w2 hf; rw [hV] at this; exact this)
  rw [hV] at lk ⊢
  clear hV
  go_enter Try.func10, Try.ntmps10
  go_upto_region 1 with (fail)
  generalize ((w.alloc (.cells (arr L) 28)).alloc (.cells #[.int .i64 r.why, .bool r.fnd, .string r.val, .int .i64 r.ver, .slice A r.l.length q] 25)) = w2 at R0 R1 HF HP HB ⊢
  have HL := hide (HLL.out w2 HF.out)
  clear HLL
  have H8 := hide HF.out.1
  have HR0 := hide R0
  have HR1 := hide R1
  clear R0 R1
  go_upto_region 2 with (first | ((with_reducible refine wpList_load8 ?_ HR0.out H8.out ?_); rfl) | (go_at_call 12; (with_reducible refine HL.out.mono ?_); rintro e w3 ⟨p, rfl, ho3, hb3⟩; obtain ⟨A3, c3, rfl, _, _, _, _⟩ := ho3.pin))
  have R4 := Row.new w3 25 #[.int .i64 V.2.why, .bool V.2.fnd, .string V.2.val, .int .i64 V.2.ver, .slice A3 V.2.l.length c3]
  have kb := kept_alloc (kept_refl w3) (.cells #[.int .i64 V.2.why, .bool V.2.fnd, .string V.2.val, .int .i64 V.2.ver, .slice A3 V.2.l.length c3] 25)
  have S1 := (HR1.out.below hb3 HR1.out.lt).below kb (HR1.out.below hb3 HR1.out.lt).lt
  have P3 := hide (ho3.pin.below kb)
  have P4 := hide ((HP.out.below hb3).below kb)
  have HB4 := hide (kept_trans HB.out (kept_trans hb3 kb))
  clear HL ho3 hb3 kb HP HB HF HR0 HR1
  generalize w3.alloc (.cells #[.int .i64 V.2.why, .bool V.2.fnd, .string V.2.val, .int .i64 V.2.ver, .slice A3 V.2.l.length c3] 25) = w4 at R4 S1 P3 P4 HB4 ⊢
  generalize w3.heap.size = g3 at R4 ⊢
  obtain ⟨c0, c1, c2, c5, c4⟩ := R4.five
  obtain ⟨d0, d1, d2, d5, d4⟩ := S1.five
  clear R4 S1
  have HQ := hide (replies_any V.2 r _ _ w4 P3.out P4.out (by omega) (by omega))
  have e0 : (V.1 == n) = decide (V.1 = n) := by rw [Bool.eq_iff_iff]; simp
  by_cases hn : V.1 = n
  · rw [decide_eq_true hn] at e0
    have HE : Hid (isK V n r = decide (V.2 = r)) := hide (by unfold isK; rw [decide_eq_true hn]; rfl)
    clear hn
    go_wp2_with (go_at_call 13; (with_reducible refine HQ.out.mono ?_); rintro e w5 ⟨rfl, hb5⟩)
    go_ret
    exact ⟨by rw [HE.out]; exact ret_bool (by simp), kept_trans HB4.out hb5⟩
  · rw [decide_eq_false hn] at e0
    have HE : Hid (isK V n r = false) := hide (by unfold isK; rw [decide_eq_false hn]; rfl)
    clear hn
    go_wp2
    go_ret
    exact ⟨by rw [HE.out]; rfl, HB4.out⟩
end Go.Proofs.Ytjadbppcjndmlaa
