/- What was said in rows with room behind them: Roomy, Intact, Same; the same row for the document. Conditions: the rows lie in memory, the cells' attributes are eight numbers. -/
import Derived.Test.YtjkdccokiaejhaaQn
import Derived.Test.YtjkdccokiaejhaaVd
import Derived.Laws.CopyOwn
import Derived.LoopTactic
namespace Go.Proofs.Ytjkdccokiaejhaa
set_option maxRecDepth 100000
open Go.RowKit
theorem eqd_said {e f : Int × Cl} (h : e.2.a.length = 8) (h' : f.2.a.length = 8) (w : World) : (Op.equalIn 10000 36 (.agg (sdA e)) (.agg (sdA f))).run Try.prog w = .ok (e.1 == f.1 && sameCl e.2 f.2) w := by
  obtain ⟨r, st, ⟨p1, p2⟩, ⟨v1, v2⟩, ⟨kx, cx, qx, kax, kbx, kox, kvx⟩, ax, s⟩ := e
  obtain ⟨r', st', ⟨p1', p2'⟩, ⟨v1', v2'⟩, ⟨kx', cx', qx', kax', kbx', kox', kvx'⟩, ax', s'⟩ := f
  dsimp only at h h'
  obtain ⟨x0, x1, x2, x3, x4, x5, x6, x7, rfl⟩ := len8 h
  obtain ⟨x0', x1', x2', x3', x4', x5', x6', x7', rfl⟩ := len8 h'
  have hS : Try.prog.underlying 36 = some (.struct (Try.prog.fieldsOf 36)) := by kernel_rfl
  have hp : Try.prog.stoodInHeld 36 = false := by kernel_rfl
  have hc := eqd_cell 9995 st p1 p2 v1 v2 kx cx qx kax kbx kox kvx x0 x1 x2 x3 x4 x5 x6 x7 s st' p1' p2' v1' v2' kx' cx' qx' kax' kbx' kox' kvx' x0' x1' x2' x3' x4' x5' x6' x7' s' w
  show (Op.equalIn 10000 36 (.agg #[.int .i64 r, .int .i64 st, .int .i64 p1, .int .i64 p2, .int .i64 v1, .int .i64 v2, .int .i64 kx, .int .i64 cx, .int .i64 qx, .string kax, .string kbx, .string kox, .string kvx, .int .i64 x0, .int .i64 x1, .int .i64 x2, .int .i64 x3, .int .i64 x4, .int .i64 x5, .int .i64 x6, .int .i64 x7, .bool s]) (.agg #[.int .i64 r', .int .i64 st', .int .i64 p1', .int .i64 p2', .int .i64 v1', .int .i64 v2', .int .i64 kx', .int .i64 cx', .int .i64 qx', .string kax', .string kbx', .string kox', .string kvx', .int .i64 x0', .int .i64 x1', .int .i64 x2', .int .i64 x3', .int .i64 x4', .int .i64 x5', .int .i64 x6', .int .i64 x7', .bool s'])).run Try.prog w = _
  rw [show (10000 : Nat) = 9999 + 1 from rfl, run_equalIn_agg w 9999 36 _ _ hS hp]
  simp only [Program.fieldsOf, Try.underlying36]
  refine fields_step (a := .int .i64 r) (b := .int .i64 r') (by decide) (by kernel_rfl) (by kernel_rfl) (eqd_int 9998 r r' w) ?_
  exact fields_last (a := .agg #[.int .i64 st, .int .i64 p1, .int .i64 p2, .int .i64 v1, .int .i64 v2, .int .i64 kx, .int .i64 cx, .int .i64 qx, .string kax, .string kbx, .string kox, .string kvx, .int .i64 x0, .int .i64 x1, .int .i64 x2, .int .i64 x3, .int .i64 x4, .int .i64 x5, .int .i64 x6, .int .i64 x7, .bool s]) (b := .agg #[.int .i64 st', .int .i64 p1', .int .i64 p2', .int .i64 v1', .int .i64 v2', .int .i64 kx', .int .i64 cx', .int .i64 qx', .string kax', .string kbx', .string kox', .string kvx', .int .i64 x0', .int .i64 x1', .int .i64 x2', .int .i64 x3', .int .i64 x4', .int .i64 x5', .int .i64 x6', .int .i64 x7', .bool s']) (by decide) (by kernel_rfl) (by kernel_rfl) hc
theorem neq_said {e : Int × Cl} (h : e.2.a.length = 8) (w : World) : (binOp .neq 36 (.agg (sdA e)) (.agg (sdA e))).run Try.prog w = .ok (.bool false) w := by
  rw [run_neq_struct]
  have e1 := eqd_said h h w
  rw [beq_self_eq_true, sameCl_iff.2 rfl] at e1
  exact (congrArg (fun r => Result.andThen r fun b w' => Result.ok (Value.bool (!b)) w') e1)
theorem Row.sd_at {w : World} {g : Nat} {t : TypeId} {e : Int × Cl} (R : Row w g t (sdA e)) : w.rangeAt g 0 (sdl e) := R.mid (A := []) (ys := sdl e) (B := []) (by unfold sdA; simp) rfl
theorem Sds.takeq {w : World} {A : Option Addr} {l : List (Int × Cl)} (h : Sds w A l) (t : Nat) : Sds w A (l.take t) := ⟨by rw [List.map_take]; exact h.e.take t, fun e he => h.a8 e (List.mem_of_mem_take he)⟩
theorem Sds.here {w : World} {b off : Nat} {l : List (Int × Cl)} (h : Sds w (some ⟨b, off, none⟩) l) {k : Nat} {e : Int × Cl} (hk : l[k]? = some e) : w.rangeAt b (off + k * 22) (sdl e) := by
  obtain ⟨q, o, hA, hx⟩ := h.at_ hk
  injection hA with hA
  injection hA with h1 h2
  subst h1 h2
  exact hx.all
set_option maxHeartbeats 4000000 in
theorem same_said {A B : Option Addr} {m c d : Nat} {l : List (Int × Cl)} {w : World} (hm : l.length = m) (h1 : Sds w A l) (h2 : Sds w B l) (h1000 : m ≤ 1000) :
    Calls Try.prog 46 #[.slice A m c, .slice B m d] w fun e w' => e = .returned (.bool true) ∧ Below w.heap.size w w' := by
  have H1 := hide h1
  have H2 := hide h2
  have HM := hide hm
  clear h1 h2 hm
  go_enter Try.func46, Try.ntmps46
  have hb0 : ((m : Int) != (m : Int)) = false := by simp
  go_wp2
  go_loopw [5] (fun i wr => ∃ k : Nat, k ≤ m ∧ i = .int .i64 k ∧ Hid (Below w.heap.size w wr)) (fun i _ => m - (intOf i).toNat)
  case atStart => exact ⟨0, by omega, rfl, hide (kept_refl w)⟩
  case round =>
    obtain ⟨k, hk, rfl, HB⟩ := hrel
    by_cases hlt : k < m
    · have hlti : (k : Int) < (m : Int) := by omega
      obtain ⟨e, he⟩ : ∃ e, l[k]? = some e := ⟨_, List.getElem?_eq_getElem (by rw [HM.out]; exact hlt)⟩
      have h8e := H1.out.a8 e (List.mem_of_getElem? he)
      obtain ⟨p, o1, hA, _⟩ := H1.out.at_ he
      obtain ⟨q, o2, hB, _⟩ := H2.out.at_ he
      subst hA
      subst hB
      have HX := hide (fun wz (h : Below w.heap.size w wz) => (H1.out.below h).here he)
      have HY := hide (fun wz (h : Below w.heap.size w wz) => (H2.out.below h).here he)
      have hne := fun w => neq_said h8e w
      clear he
      go_upto_region 6 with (fail)
      refine wp_region_noPanic ?_
      refine wp_region_U 8 (fun wz => Below w.heap.size w wz) (by kernel_rfl) ?_
      have HD := hide (kept_trans HB.out (kept_drewN (kept_refl wr) 1))
      change Hid (Below w.heap.size w wr.drew) at HD
      generalize wr.drew = wd at HD ⊢
      refine anyU_take2 (i := 0) (v := .slice (some ⟨p, o1, none⟩) m c) (by simp only [List.getElem?_toArray, List.getElem?_cons_zero]; exact rfl) (by kernel_rfl) 12 (by kernel_rfl) (by kernel_rfl) (fun _ _ _ h => h) (by kernel_rfl) (by kernel_rfl) (by kernel_rfl) (by kernel_rfl) (Or.inl ⟨by rfl, fun w hSw => (by go_simp; try with_reducible rfl)⟩) (by with_reducible exact HD.out) ?_
      try simp only [Act.put, List.setIfInBounds_toArray, List.set_cons_zero, List.set_cons_succ]
      refine anyU_take2 (i := 1) (v := .int .i64 (k : Nat)) (by simp only [List.getElem?_toArray, List.getElem?_cons_succ, List.getElem?_cons_zero]; exact rfl) (by kernel_rfl) 12 (by kernel_rfl) (by kernel_rfl) (fun _ _ _ h => h) (by kernel_rfl) (by kernel_rfl) (by kernel_rfl) (by kernel_rfl) (Or.inl ⟨by rfl, fun w hSw => (by go_simp; try with_reducible rfl)⟩) (by with_reducible exact HD.out) ?_
      try simp only [Act.put, List.setIfInBounds_toArray, List.set_cons_zero, List.set_cons_succ]
      refine anyU_take2 (i := 2) (v := .pointer (some ⟨p, o1 + k * 22, none⟩)) (by simp only [List.getElem?_toArray, List.getElem?_cons_succ, List.getElem?_cons_zero]; exact rfl) (by kernel_rfl) 12 (by kernel_rfl) (by kernel_rfl) (fun _ _ _ h => h) (by kernel_rfl) (by kernel_rfl) (by kernel_rfl) (by kernel_rfl) (Or.inl ⟨by rfl, fun w hSw => (by go_simp; try with_reducible rfl)⟩) (by with_reducible exact HD.out) ?_
      try simp only [Act.put, List.setIfInBounds_toArray, List.set_cons_zero, List.set_cons_succ]
      refine anyU_take2 (i := 3) (v := .agg (sdA e)) (by simp only [List.getElem?_toArray, List.getElem?_cons_succ, List.getElem?_cons_zero]; exact rfl) (by kernel_rfl) 12 (by kernel_rfl) (by kernel_rfl) (fun _ _ _ h => h) (by kernel_rfl) (by kernel_rfl) (by kernel_rfl) (by kernel_rfl) (Or.inl ⟨by rfl, fun w hSw => exec_load_gp (cs := sdl e) rfl rfl (HX.out _ hSw) said_under rfl (by rw [sdl_len h8e]; exact said_info)⟩) (by with_reducible exact HD.out) ?_
      try simp only [Act.put, List.setIfInBounds_toArray, List.set_cons_zero, List.set_cons_succ]
      refine anyU_take2 (i := 4) (v := .slice (some ⟨q, o2, none⟩) m d) (by simp only [List.getElem?_toArray, List.getElem?_cons_succ, List.getElem?_cons_zero]; exact rfl) (by kernel_rfl) 12 (by kernel_rfl) (by kernel_rfl) (fun _ _ _ h => h) (by kernel_rfl) (by kernel_rfl) (by kernel_rfl) (by kernel_rfl) (Or.inl ⟨by rfl, fun w hSw => (by go_simp; try with_reducible rfl)⟩) (by with_reducible exact HD.out) ?_
      try simp only [Act.put, List.setIfInBounds_toArray, List.set_cons_zero, List.set_cons_succ]
      refine anyU_take2 (i := 5) (v := .int .i64 (k : Nat)) (by simp only [List.getElem?_toArray, List.getElem?_cons_succ, List.getElem?_cons_zero]; exact rfl) (by kernel_rfl) 12 (by kernel_rfl) (by kernel_rfl) (fun _ _ _ h => h) (by kernel_rfl) (by kernel_rfl) (by kernel_rfl) (by kernel_rfl) (Or.inl ⟨by rfl, fun w hSw => (by go_simp; try with_reducible rfl)⟩) (by with_reducible exact HD.out) ?_
      try simp only [Act.put, List.setIfInBounds_toArray, List.set_cons_zero, List.set_cons_succ]
      refine anyU_take2 (i := 6) (v := .pointer (some ⟨q, o2 + k * 22, none⟩)) (by simp only [List.getElem?_toArray, List.getElem?_cons_succ, List.getElem?_cons_zero]; exact rfl) (by kernel_rfl) 12 (by kernel_rfl) (by kernel_rfl) (fun _ _ _ h => h) (by kernel_rfl) (by kernel_rfl) (by kernel_rfl) (by kernel_rfl) (Or.inl ⟨by rfl, fun w hSw => (by go_simp; try with_reducible rfl)⟩) (by with_reducible exact HD.out) ?_
      try simp only [Act.put, List.setIfInBounds_toArray, List.set_cons_zero, List.set_cons_succ]
      refine anyU_take2 (i := 7) (v := .agg (sdA e)) (by simp only [List.getElem?_toArray, List.getElem?_cons_succ, List.getElem?_cons_zero]; exact rfl) (by kernel_rfl) 12 (by kernel_rfl) (by kernel_rfl) (fun _ _ _ h => h) (by kernel_rfl) (by kernel_rfl) (by kernel_rfl) (by kernel_rfl) (Or.inl ⟨by rfl, fun w hSw => exec_load_gp (cs := sdl e) rfl rfl (HY.out _ hSw) said_under rfl (by rw [sdl_len h8e]; exact said_info)⟩) (by with_reducible exact HD.out) ?_
      try simp only [Act.put, List.setIfInBounds_toArray, List.set_cons_zero, List.set_cons_succ]
      refine anyU_one (i := 8) (by kernel_rfl) (by simp only [List.getElem?_toArray, List.getElem?_cons_succ, List.getElem?_cons_zero]; exact rfl) (fun K hK => ?_)
      try go_simp
      refine hK.out _ _ (fun e _ => absurd rfl e) ?_
      clear hK K
      try simp only [Act.put]
      refine anyU_done (by kernel_rfl) ?_
      refine NoPanic.normal ?_
      try simp only [Act.put]
      clear hne
      go_wp2
      go_roundw
      case rel => exact ⟨k + 1, by omega, by go_num, HD⟩
      case measure => simp [intOf]; omega
    · have hlti : ¬ (k : Int) < (m : Int) := by omega
      go_wp2
      go_ret
      exact ⟨rfl, HB.out⟩
set_option maxHeartbeats 4000000 in
theorem intact_said {A B : Option Addr} {m d : Nat} {l : List (Int × Cl)} {mk : Int × Cl} {w : World} (hm : l.length = m) (h8 : mk.2.a.length = 8) (hz : Sds w A (l ++ List.replicate 80 mk)) (hy : Sds w B l) (h1000 : m ≤ 1000) :
    Calls Try.prog 31 #[.slice A (m + 80) (m + 80), .slice B m d, .agg (sdA mk)] w fun e w' => e = .returned (.bool true) ∧ Below w.heap.size w w' := by
  have HZ := hide hz
  have HY0 := hide hy
  have HM := hide hm
  have h8e := h8
  have HK0 := hide (Row.new w 36 (sdA mk))
  have HB0 := hide (kept_alloc (kept_refl w) (.cells (sdA mk) 36))
  have HT := hide (show Sds w A l from by have h := hz.takeq m; rwa [List.take_left' hm] at h)
  have HSA := hide (fun wz (h : Below w.heap.size w wz) => same_said (c := m + 80) (d := d) HM.out (HT.out.below h) (HY0.out.below h) h1000)
  have hmi : ¬ ((m : Int) + 80 < (m : Int)) := by omega
  clear hz hy hm
  go_enter Try.func31, Try.ntmps31
  go_upto_region 1 with (fail)
  generalize w.alloc (.cells (sdA mk) 36) = w0 at HK0 HB0 ⊢
  go_wp2_with (go_at_call 46; (with_reducible refine (HSA.out _ HB0.out).mono ?_); rintro e w1 ⟨rfl, hb⟩; have HK := hide (HK0.out.below hb HK0.out.lt); have HB1 := hide (kept_trans HB0.out hb); clear hb)
  clear HK0 HB0 HSA HT
  have HZ1 := hide (HZ.out.below HB1.out)
  go_loopw [7] (fun i wr => ∃ k : Nat, m ≤ k ∧ k ≤ m + 80 ∧ i = .int .i64 k ∧ Hid (Below w1.heap.size w1 wr)) (fun i _ => m + 80 - (intOf i).toNat)
  case atStart => exact ⟨m, by omega, by omega, rfl, hide (kept_refl w1)⟩
  case round =>
    obtain ⟨k, hk0, hk, rfl, HB⟩ := hrel
    by_cases hlt : k < m + 80
    · have hlti : (k : Int) < (m : Int) + 80 := by omega
      have he : (l ++ List.replicate 80 mk)[k]? = some mk := by rw [List.getElem?_append_right (by rw [HM.out]; omega), List.getElem?_replicate, if_pos (by rw [HM.out]; omega)]
      obtain ⟨p, o1, hA, _⟩ := HZ1.out.at_ he
      subst hA
      have HX := hide (fun wz (h : Below w1.heap.size w1 wz) => (HZ1.out.below h).here he)
      have hne := fun w => neq_said h8e w
      clear he
      go_upto_region 6 with (fail)
      refine wp_region_noPanic ?_
      refine wp_region_U 5 (fun wz => Below w1.heap.size w1 wz) (by kernel_rfl) ?_
      have HD := hide (kept_trans HB.out (kept_drewN (kept_refl wr) 1))
      change Hid (Below w1.heap.size w1 wr.drew) at HD
      generalize wr.drew = wd at HD ⊢
      refine anyU_take2 (i := 0) (v := .slice (some ⟨p, o1, none⟩) (m + 80) (m + 80)) (by simp only [List.getElem?_toArray, List.getElem?_cons_zero]; exact rfl) (by kernel_rfl) 12 (by kernel_rfl) (by kernel_rfl) (fun _ _ _ h => h) (by kernel_rfl) (by kernel_rfl) (by kernel_rfl) (by kernel_rfl) (Or.inl ⟨by rfl, fun w hSw => (by go_simp; try with_reducible rfl)⟩) (by with_reducible exact HD.out) ?_
      try simp only [Act.put, List.setIfInBounds_toArray, List.set_cons_zero, List.set_cons_succ]
      refine anyU_take2 (i := 1) (v := .int .i64 (k : Nat)) (by simp only [List.getElem?_toArray, List.getElem?_cons_succ, List.getElem?_cons_zero]; exact rfl) (by kernel_rfl) 12 (by kernel_rfl) (by kernel_rfl) (fun _ _ _ h => h) (by kernel_rfl) (by kernel_rfl) (by kernel_rfl) (by kernel_rfl) (Or.inl ⟨by rfl, fun w hSw => (by go_simp; try with_reducible rfl)⟩) (by with_reducible exact HD.out) ?_
      try simp only [Act.put, List.setIfInBounds_toArray, List.set_cons_zero, List.set_cons_succ]
      refine anyU_take2 (i := 2) (v := .pointer (some ⟨p, o1 + k * 22, none⟩)) (by simp only [List.getElem?_toArray, List.getElem?_cons_succ, List.getElem?_cons_zero]; exact rfl) (by kernel_rfl) 12 (by kernel_rfl) (by kernel_rfl) (fun _ _ _ h => h) (by kernel_rfl) (by kernel_rfl) (by kernel_rfl) (by kernel_rfl) (Or.inl ⟨by rfl, fun w hSw => (by go_simp; try with_reducible rfl)⟩) (by with_reducible exact HD.out) ?_
      try simp only [Act.put, List.setIfInBounds_toArray, List.set_cons_zero, List.set_cons_succ]
      refine anyU_take2 (i := 3) (v := .agg (sdA mk)) (by simp only [List.getElem?_toArray, List.getElem?_cons_succ, List.getElem?_cons_zero]; exact rfl) (by kernel_rfl) 12 (by kernel_rfl) (by kernel_rfl) (fun _ _ _ h => h) (by kernel_rfl) (by kernel_rfl) (by kernel_rfl) (by kernel_rfl) (Or.inl ⟨by rfl, fun w hSw => exec_load_gp (cs := sdl mk) rfl rfl (HX.out _ hSw) said_under rfl (by rw [sdl_len h8e]; exact said_info)⟩) (by with_reducible exact HD.out) ?_
      try simp only [Act.put, List.setIfInBounds_toArray, List.set_cons_zero, List.set_cons_succ]
      refine anyU_take2 (i := 4) (v := .agg (sdA mk)) (by simp only [List.getElem?_toArray, List.getElem?_cons_succ, List.getElem?_cons_zero]; exact rfl) (by kernel_rfl) 12 (by kernel_rfl) (by kernel_rfl) (fun _ _ _ h => h) (by kernel_rfl) (by kernel_rfl) (by kernel_rfl) (by kernel_rfl) (Or.inl ⟨by rfl, fun w hSw => exec_load_gp (cs := sdl mk) rfl rfl ((HK.out.below hSw HK.out.lt).sd_at) said_under rfl (by rw [sdl_len h8e]; exact said_info)⟩) (by with_reducible exact HD.out) ?_
      try simp only [Act.put, List.setIfInBounds_toArray, List.set_cons_zero, List.set_cons_succ]
      refine anyU_one (i := 5) (by kernel_rfl) (by simp only [List.getElem?_toArray, List.getElem?_cons_succ, List.getElem?_cons_zero]; exact rfl) (fun K hK => ?_)
      try go_simp
      refine hK.out _ _ (fun e _ => absurd rfl e) ?_
      clear hK K
      try simp only [Act.put]
      refine anyU_done (by kernel_rfl) ?_
      refine NoPanic.normal ?_
      try simp only [Act.put]
      clear hne
      go_wp2
      go_roundw
      case rel => exact ⟨k + 1, by omega, by omega, by go_num, HD⟩
      case measure => simp [intOf]; omega
    · have hlti : ¬ (k : Int) < (m : Int) + 80 := by omega
      go_wp2
      go_ret
      exact ⟨rfl, kept_trans HB1.out HB.out⟩
end Go.Proofs.Ytjkdccokiaejhaa
/- Roomy of what was said. Conditions: the row lies in memory, the cells' attributes are eight numbers. -/
namespace Go.Proofs.Ytjkdccokiaejhaa
set_option maxRecDepth 100000
open Go.RowKit
def markS (l : List (Int × Cl)) (mk : Int × Cl) (q : Nat) : List (Int × Cl) := l ++ List.replicate (q - l.length) mk
theorem markS_here (l : List (Int × Cl)) (mk : Int × Cl) : markS l mk l.length = l := by unfold markS; rw [Nat.sub_self, List.replicate_zero, List.append_nil]
theorem markS_next {l : List (Int × Cl)} (mk : Int × Cl) {q : Nat} (h : l.length ≤ q) : markS l mk (q + 1) = markS l mk q ++ [mk] := by
  unfold markS
  rw [show q + 1 - l.length = (q - l.length) + 1 by omega, List.replicate_succ', List.append_assoc]
theorem markS_8 {l : List (Int × Cl)} {mk : Int × Cl} (h : ∀ e, e ∈ l → e.2.a.length = 8) (hm : mk.2.a.length = 8) (q : Nat) : ∀ e, e ∈ markS l mk q → e.2.a.length = 8 := fun e he => by
  unfold markS at he
  rcases List.mem_append.1 he with he | he
  · exact h e he
  · rw [List.eq_of_mem_replicate he]; exact hm
theorem markS_len {l : List (Int × Cl)} (mk : Int × Cl) {q : Nat} (h : l.length ≤ q) : (markS l mk q).length = q := by unfold markS; rw [List.length_append, List.length_replicate]; omega
theorem cellsS_len {l : List (Int × Cl)} (h : ∀ e, e ∈ l → e.2.a.length = 8) : (cellsV (l.map sdl)).length = l.length * 22 := by rw [length_cellsV (sd_all h), List.length_map]
section
variable {op : Oper} {ops : Array Oper} {rest : List Oper} {d : Option Tmp} {ty : TypeId} {ps : String} {af : Array Edge} {a : Act} {w : World} {Q : Exit → Act → World → Prop} {b o : Nat} {x u : Operand} {t : TypeId} {y : Int × Cl} {A ys D : List Value}
/-- One is stored into a part of a row. -/
theorem wpList_store_sdp (wy : y.2.a.length = 8) (hx : a.eval x = .pointer (some ⟨b, o, none⟩)) (hy : a.eval u = .agg (sdA y)) (R : Row w b t (A ++ (ys ++ D)).toArray) (hA : A.length = o) (hys : ys.length = 22) (h : ∀ w', Row w' b t (A ++ (sdl y ++ D)).toArray → w.grownBy w' (some b) → wpList Try.prog ops Q rest (a.put d undef) w') :
    wpList Try.prog ops Q ({ dst := d, op := .store 36 x u, type := ty, pos := ps, after := af, guard := none } :: rest) a w :=
  wpList_plain rfl fun _ hK => by
    have hth : w.there b o 22 := fun j hj => ⟨by rw [R.cell, Array.getElem?_eq_getElem (by simp; omega)]; rfl, R.free _⟩
    refine wp_store_mid 36 x u rfl b o (sdA y) hx hy (by rw [sdA_size wy]; exact hth) (by rw [sdA_size wy]; exact said_info) (sdA_all y) ?_
    have h1 := Row.puts (sdl y) o R
    have e := puts_mid (sdl y) ys A D (by rw [sdl_len wy, hys])
    rw [hA] at e
    rw [e] at h1
    exact hK _ _ (h _ h1 (grown_setCells b (sdl y) o w))
end
/-- While it marks: the mark, the row. -/
structure Rms (w wr : World) (l : List (Int × Cl)) (mk : Int × Cl) (q : Nat) : Prop where
  low : Below w.heap.size w wr
  m : Row wr w.heap.size 36 (sdA mk)
  f : ∃ D, Row wr (w.heap.size + 1) 36 (cellsV ((markS l mk q).map sdl) ++ D).toArray ∧ D.length = (l.length + 80 - q) * 22
set_option maxHeartbeats 4000000 in
theorem roomy_said {A : Option Addr} {m c : Nat} {l : List (Int × Cl)} {mk : Int × Cl} {w : World} (hm : l.length = m) (h8 : mk.2.a.length = 8) (hl : Sds w A l) (h1000 : m ≤ 1000) :
    Calls Try.prog 27 #[.slice A m c, .agg (sdA mk)] w fun e w' =>
      e = .returned (.slice (some ⟨w.heap.size + 1, 0, none⟩) (m + 80) (m + 80)) ∧ Sds w' (some ⟨w.heap.size + 1, 0, none⟩) (l ++ List.replicate 80 mk) ∧ Below w.heap.size w w' := by
  subst hm
  obtain ⟨i0, hi, hz0, hz1, hz2⟩ := info_parts (show (Try.prog.info? 36).map (fun i => (i.zero, i.size, i.bytes)) = some (some (.agg (sdA (0, zeroCl))), 22, 208) by kernel_rfl)
  have hsz := hide (show (Try.prog.info? 36).map (·.size) = some 22 by rw [hi]; exact congrArg some hz1)
  have hu : Try.prog.underlying 51 = some (.slice 36) := by kernel_rfl
  have HM := hide (Row.new w 36 (sdA mk))
  have HL := hide hl
  clear hl
  go_enter Try.func27, Try.ntmps27
  go_wp2_with (at_make; refine wpList_make_full _ rfl _ _ 51 rfl (w.heap.size + 1) 36 i0 _ 22 hu hi hz0 hz1 _ _ _ _ (l.length + 80) rfl rfl (by omega) (by omega) ?b2 ?b3 (by simp) ?_)
  case b2 => rw [hz2]; omega
  case b3 => unfold maxLen; omega
  intro w0 hown0 hgrow0
  obtain ⟨cur, hcur, hcsz⟩ : ∃ cur, w0.heap[w.heap.size + 1]? = some (.cells cur 36 (0, 0)) ∧ cur.size = (l.length + 80) * 22 := by
    rcases hown0.2 with ⟨h0, _⟩ | ⟨g', cap, cur, hv, hb, hh, _, hm, hs, ht⟩
    · cases h0
    · injection hv with h1 _ h3
      injection h1 with h1
      injection h1 with h1
      subst h1 h3
      exact ⟨cur, hh, hs⟩
  have hb0 : Below w.heap.size w w0 := kept_trans (kept_alloc (kept_refl w) _) (below_grown hgrow0)
  have HL0 := hide (HL.out.below hb0)
  have HM0 := hide (HM.out.grown hgrow0 (by simp))
  have HB0 := hide hb0
  have H8 := hide HL.out.a8
  clear HL HM hown0 hgrow0 hb0 hi hz0 hz1 hz2
  have hcopy := run_copy_els (P := Try.prog) w0 51 51 3 36 (w.heap.size + 1) (l.length + 80) (l.length + 80) A l.length c 22 (l.map sdl) hu hsz.out cur _ hcur (List.length_map _) (by omega) (by omega) (sd_all H8.out) HL0.out.e
  obtain ⟨w1, hw1⟩ : ∃ w1, w1 = w0.setRow (w.heap.size + 1) (cellsV (l.map sdl) ++ cur.toList.drop (l.length * 22)).toArray := ⟨_, rfl⟩
  rw [← hw1] at hcopy
  have ST : Hid (Rms w w1 l mk l.length) := by
    subst hw1
    refine ⟨HB0.out.trans ⟨rfl, rfl, rfl, by simp [World.setRow], fun k hk => setRow_other w0 _ k _ (by omega)⟩, (setRow_other w0 _ _ _ (by omega)).trans HM0.out, cur.toList.drop (l.length * 22), ?_, ?_⟩
    · rw [markS_here]
      exact setRow_heap w0 _ cur _ _ _ hcur
    · rw [List.length_drop, Array.length_toList, hcsz]; omega
  clear hw1 hcur hcsz HB0 HM0 HL0 hu hsz
  go_wp2
  go_loopw [6] (fun i wr => ∃ q : Nat, l.length ≤ q ∧ q ≤ l.length + 80 ∧ i = .int .i64 q ∧ Hid (Rms w wr l mk q)) (fun i _ => l.length + 80 - (intOf i).toNat)
  case atStart => exact ⟨l.length, by omega, by omega, rfl, ST⟩
  case round =>
    clear ST
    obtain ⟨q, hq0, hq1, rfl, J⟩ := hrel
    by_cases hlt : q < l.length + 80
    · have hlt' : (q : Int) < (l.length : Int) + 80 := by omega
      have hmk := J.out.m.sd_at
      obtain ⟨D, hR, hD⟩ := J.out.f
      have hDl : (D.take 22).length = 22 := by rw [List.length_take, hD]; have : 1 * 22 ≤ (l.length + 80 - q) * 22 := Nat.mul_le_mul_right 22 (by omega); omega
      have hD2 : (D.drop 22).length = (l.length + 80 - (q + 1)) * 22 := by rw [List.length_drop, hD, show l.length + 80 - q = (l.length + 80 - (q + 1)) + 1 by omega]; omega
      rw [← List.take_append_drop 22 D] at hR
      have HR := hide hR
      have HD2 := hide hD2
      have hql : (cellsV ((markS l mk q).map sdl)).length = q * 22 := by rw [cellsS_len (markS_8 H8.out h8 q), markS_len mk hq0]
      clear hR hD hD2
      go_wp2_with (first
        | ((with_reducible refine wpList_load_sd h8 ?_ ?_ hmk ?_); rfl; rfl)
        | ((with_reducible refine wpList_store_sdp h8 ?_ ?_ HR.out hql hDl ?_); rfl; rfl; intro w5 hn hg; have HN := hide hn; have HG := hide hg; clear hn hg))
      go_roundw
      case rel => exact ⟨q + 1, by omega, by omega, by go_num, hide ⟨below_own J.out.low HG.out (by omega), J.out.m.grown HG.out (by simp), D.drop 22, by
        have h := HN.out
        rw [markS_next mk hq0, List.map_append, cellsV_append, List.append_assoc]
        simpa [cellsV] using h, HD2.out⟩⟩
      case measure => simp [intOf]; omega
    · obtain rfl : q = l.length + 80 := by omega
      go_wp2
      go_ret
      obtain ⟨D, hR, hD⟩ := J.out.f
      have hD0 : D = [] := List.eq_nil_of_length_eq_zero (by rw [hD, Nat.sub_self, Nat.zero_mul])
      rw [hD0, List.append_nil] at hR
      have h8m := markS_8 H8.out h8 (l.length + 80)
      have hmk : markS l mk (l.length + 80) = l ++ List.replicate 80 mk := by unfold markS; rw [show l.length + 80 - l.length = 80 by omega]
      rw [hmk] at hR h8m
      exact ⟨rfl, ⟨els_row hR (sd_all h8m) rfl, h8m⟩, J.out.low⟩
end Go.Proofs.Ytjkdccokiaejhaa
/- The row of what was said, for the document. Conditions: the row lies in memory, the cells' attributes are eight numbers. -/
namespace Go.Proofs.Ytjkdccokiaejhaa
set_option maxRecDepth 100000
open Go.RowKit
/-- An own row of the document's. -/
def Rsr (base : Nat) (w : World) (v : Value) (l : List (Int × Cl)) : Prop := Rw base 80 22 w v (l.map sdl)
theorem Rsr.nil_ (base : Nat) (w : World) : Rsr base w (.slice none 0 0) [] := ⟨rfl, .inl ⟨rfl, rfl⟩⟩
theorem Rsr.below {base : Nat} {w w' : World} {v : Value} {l : List (Int × Cl)} (h : Rsr base w v l) (hb : Below w.heap.size w w') : Rsr base w' v l := (Kq.of_below (o := fun _ => False) hb).own h (fun _ _ e => e)
theorem Rsr.lt {base : Nat} {w : World} {v : Value} {l : List (Int × Cl)} (h : Rsr base w v l) : ∀ j, v.ownBlock = some j → base ≤ j ∧ j < w.heap.size := Rw.lt h
theorem Rsr.sds {base : Nat} {w : World} {v : Value} {l : List (Int × Cl)} (h : Rsr base w v l) (h8 : ∀ e, e ∈ l → e.2.a.length = 8) : ∃ A c, v = .slice A l.length c ∧ Sds w A l := by
  have h1 := h
  unfold Rsr Rw at h1
  rw [List.length_map] at h1
  obtain ⟨A, c, rfl, _, _, _⟩ := els_own_form h1
  exact ⟨A, c, rfl, (els_own h1 (sd_all h8) (by decide)).1, h8⟩
theorem fill_rsd {e : Int × Cl} (h : e.2.a.length = 8) (w : World) : (Instr.build 80 #[(0, .int .i64 e.1), (1, .agg (clC e.2))]).run Try.prog w = .ok (.agg (sdA e)) w := by
  obtain ⟨r, st, p, v, c, a, s⟩ := e
  obtain ⟨a0, a1, a2, a3, a4, a5, a6, a7, rfl⟩ := len8 h
  kernel_rfl
theorem lit_rsd {e : Int × Cl} (h : e.2.a.length = 8) (w : World) : (Instr.buildSlice 56 1 #[(0, .agg (sdA e))]).run Try.prog w = .ok (.slice (some ⟨w.heap.size, 0, none⟩) 1 1) (w.alloc (.cells (sdA e) 80)) := by
  obtain ⟨r, st, p, v, c, a, s⟩ := e
  obtain ⟨a0, a1, a2, a3, a4, a5, a6, a7, rfl⟩ := len8 h
  kernel_rfl
theorem exec_build_2 {P : Program} {a : Act} {w : World} {o : Oper} {T : TypeId} {x0 x1 : Operand} {u0 u1 v : Value} (ho : o.op = .build T #[(0, x0), (1, x1)]) (h0 : a.eval x0 = u0) (h1 : a.eval x1 = u1) (hf : (Instr.build T #[(0, u0), (1, u1)]).run P w = .ok v w) :
    (execOp a.eval o).run P w = .ok (.value v) w := by
  unfold execOp
  simp only [ho, List.map_toArray, List.map_cons, List.map_nil, h0, h1, Sem.run_bind, hf, Result.andThen_ok, Sem.run_pure]
theorem step_lit1r {T : TypeId} {ops : Array Oper} {d : Option Tmp} {ty : TypeId} {ps : String} {af : Array Edge} {a : Act} {w w' : World} {v u : Value} {x : Operand} {K : Act → World → Prop} {Q : Exit → Act → World → Prop} {E : Prop}
    (hx : a.eval x = u) (hr : (Instr.buildSlice T 1 #[(0, u)]).run Try.prog w = .ok v w') (hk : K (a.put d v) w') :
    if Region.wanted ({ dst := d, op := .buildSlice T 1 #[(0, x)], type := ty, pos := ps, after := af, guard := none } : Oper) (yielded ops a.tmps) = true then Oper.wp Try.prog { dst := d, op := .buildSlice T 1 #[(0, x)], type := ty, pos := ps, after := af, guard := none } a w K Q else E := by
  rw [if_pos (by simp [Region.wanted])]
  unfold Oper.wp execOp
  simp only [List.map_toArray, List.map_cons, List.map_nil, hx, Sem.run_bind, Sem.run_pure, Result.andThen_ok, hr]
  exact hk
theorem step_append_rsd {ops : Array Oper} {d : Option Tmp} {ty : TypeId} {ps : String} {af : Array Edge} {s x : Operand} {a : Act} {w : World} {K : Act → World → Prop} {Q : Exit → Act → World → Prop} {E : Prop} {base g : Nat} {v : Value} {l : List (Int × Cl)} {e : Int × Cl}
    (hs : a.eval s = v) (hown : Rsr base w v l) (hx : a.eval x = .slice (some ⟨g, 0, none⟩) 1 1) (G : Row w g 80 (sdA e)) (he : e.2.a.length = 8) (hb : l.length ≤ 1000) (hbase : base ≤ w.heap.size)
    (hk : ∀ v' w', Rsr base w' v' (l ++ [e]) → w.grownBy w' v.ownBlock → K (a.put d v') w') :
    if Region.wanted ({ dst := d, op := .call { callee := .builtin .append, args := #[s, x], argTypes := #[56, 56] }, type := ty, pos := ps, after := af, guard := none } : Oper) (yielded ops a.tmps) = true then Oper.wp Try.prog { dst := d, op := .call { callee := .builtin .append, args := #[s, x], argTypes := #[56, 56] }, type := ty, pos := ps, after := af, guard := none } a w K Q else E := by
  rw [if_pos (by simp [Region.wanted])]
  have hE : Els 22 w (some ⟨g, 0, none⟩) [sdl e] := els_row G (fun y hy => by rw [List.mem_singleton.1 hy]; exact sd_all (l := [e]) (fun f hf => by rw [List.mem_singleton.1 hf]; exact he) _ (List.mem_map.2 ⟨e, List.mem_singleton.2 rfl, rfl⟩)) (by show sdl e = cellsV [sdl e]; simp [cellsV])
  have hR := hown
  unfold Rsr Rw at hR
  obtain ⟨v', w', hr, r1, r2, _⟩ := run_append_els (P := Try.prog) (w := w) base 56 ty 80 _ _ 208 rfl rfl rfl rfl rfl (by decide) rfl v (l.map sdl).length (l.map sdl) hR (some ⟨g, 0, none⟩) 1 1 [sdl e]
    (fun y hy => by rw [List.mem_singleton.1 hy]; exact sd_all (l := [e]) (fun f hf => by rw [List.mem_singleton.1 hf]; exact he) _ (List.mem_map.2 ⟨e, List.mem_singleton.2 rfl, rfl⟩)) rfl (fun h => by cases h) hE (by rw [List.length_map]; omega) (by rw [List.length_map]; omega) hbase
  unfold Oper.wp execOp
  simp only [resolve, invoke, builtin, Sem.run_bind, Sem.run_pure, Result.andThen_ok, List.map_toArray, List.map_cons, List.map_nil, hs, hx, hr]
  refine hk v' w' ?_ r2
  unfold Rsr Rw
  rw [List.map_append, List.length_append]
  exact r1
set_option maxHeartbeats 4000000 in
theorem row_any {A : Option Addr} {m c : Nat} {l : List (Int × Cl)} {w : World} (hm : l.length = m) (hl : Sds w A l) (h1000 : m ≤ 1000) :
    Calls Try.prog 30 #[.slice A m c] w fun e w' => (∃ B d, e = .returned (.slice B m d) ∧ Sds w' B l) ∧ Below w.heap.size w w' := by
  have HL := hide hl
  have HM := hide hm
  clear hl hm
  have HR := hide (Rsr.nil_ w.heap.size w)
  go_enter Try.func30, Try.ntmps30
  go_wp2
  go_loopw [3, 4] (fun v i wr => ∃ k : Nat, k ≤ m ∧ i = .int .i64 k ∧ Hid (Rsr w.heap.size wr v (l.take k)) ∧ Hid (Below w.heap.size w wr)) (fun _ i _ => m - (intOf i).toNat)
  case atStart => exact ⟨0, by omega, rfl, HR, hide (kept_refl w)⟩
  case round =>
    clear HR
    obtain ⟨k, hk, rfl, HR, HB⟩ := hrel
    obtain ⟨B0, d0, hv0, _⟩ := HR.out.sds (fun e he => HL.out.a8 e (List.mem_of_mem_take he))
    have hlk : (l.take k).length = k := by rw [List.length_take, HM.out]; omega
    rw [hlk] at hv0
    subst hv0
    by_cases hlt : k < m
    · have hlti : (k : Int) < (m : Int) := by omega
      obtain ⟨e, he⟩ : ∃ e, l[k]? = some e := ⟨_, List.getElem?_eq_getElem (by rw [HM.out]; exact hlt)⟩
      have he8 := HL.out.a8 e (List.mem_of_getElem? he)
      obtain ⟨q, off, hA, _⟩ := HL.out.at_ he
      subst hA
      have HX := hide (here_of HL.out he rfl)
      have HT := hide (take_snoc he)
      have hll : (l.take k).length ≤ 1000 := by rw [List.length_take]; omega
      clear he
      go_upto_region 5 with (fail)
      refine wp_region_noPanic ?_
      refine wp_region_U 14 (fun wz => Below w.heap.size w wz) (by kernel_rfl) ?_
      have HD := hide (kept_trans HB.out (kept_drewN (kept_refl wr) 1))
      change Hid (Below w.heap.size w wr.drew) at HD
      replace HR := hide (HR.out.below (kept_drewN (kept_refl wr) 1))
      change Hid (Rsr w.heap.size wr.drew (.slice B0 k d0) (l.take k)) at HR
      generalize wr.drew = wd at HD HR ⊢
      refine anyU_take2 (i := 0) (v := .slice B0 k d0) (by simp only [List.getElem?_toArray, List.getElem?_cons_zero]; exact rfl) (by kernel_rfl) 12 (by kernel_rfl) (by kernel_rfl) (fun _ _ _ h => h) (by kernel_rfl) (by kernel_rfl) (by kernel_rfl) (by kernel_rfl) (Or.inl ⟨by rfl, fun w hSw => (by go_simp; try with_reducible rfl)⟩) (by with_reducible exact HD.out) ?_
      try simp only [Act.put, List.setIfInBounds_toArray, List.set_cons_zero, List.set_cons_succ]
      refine anyU_take2 (i := 1) (v := .slice (some ⟨q, off, none⟩) m c) (by simp only [List.getElem?_toArray, List.getElem?_cons_succ, List.getElem?_cons_zero]; exact rfl) (by kernel_rfl) 12 (by kernel_rfl) (by kernel_rfl) (fun _ _ _ h => h) (by kernel_rfl) (by kernel_rfl) (by kernel_rfl) (by kernel_rfl) (Or.inl ⟨by rfl, fun w hSw => (by go_simp; try with_reducible rfl)⟩) (by with_reducible exact HD.out) ?_
      try simp only [Act.put, List.setIfInBounds_toArray, List.set_cons_zero, List.set_cons_succ]
      refine anyU_take2 (i := 2) (v := .int .i64 (k : Nat)) (by simp only [List.getElem?_toArray, List.getElem?_cons_succ, List.getElem?_cons_zero]; exact rfl) (by kernel_rfl) 12 (by kernel_rfl) (by kernel_rfl) (fun _ _ _ h => h) (by kernel_rfl) (by kernel_rfl) (by kernel_rfl) (by kernel_rfl) (Or.inl ⟨by rfl, fun w hSw => (by go_simp; try with_reducible rfl)⟩) (by with_reducible exact HD.out) ?_
      try simp only [Act.put, List.setIfInBounds_toArray, List.set_cons_zero, List.set_cons_succ]
      refine anyU_take2 (i := 3) (v := .pointer (some ⟨q, off + k * 22, none⟩)) (by simp only [List.getElem?_toArray, List.getElem?_cons_succ, List.getElem?_cons_zero]; exact rfl) (by kernel_rfl) 12 (by kernel_rfl) (by kernel_rfl) (fun _ _ _ h => h) (by kernel_rfl) (by kernel_rfl) (by kernel_rfl) (by kernel_rfl) (Or.inl ⟨by rfl, fun w hSw => (by go_simp; try with_reducible rfl)⟩) (by with_reducible exact HD.out) ?_
      try simp only [Act.put, List.setIfInBounds_toArray, List.set_cons_zero, List.set_cons_succ]
      refine anyU_take2 (i := 4) (v := .pointer (some ⟨q, off + k * 22, none⟩)) (by simp only [List.getElem?_toArray, List.getElem?_cons_succ, List.getElem?_cons_zero]; exact rfl) (by kernel_rfl) 12 (by kernel_rfl) (by kernel_rfl) (fun _ _ _ h => h) (by kernel_rfl) (by kernel_rfl) (by kernel_rfl) (by kernel_rfl) (Or.inl ⟨by rfl, fun w hSw => (by go_simp; try with_reducible rfl)⟩) (by with_reducible exact HD.out) ?_
      try simp only [Act.put, List.setIfInBounds_toArray, List.set_cons_zero, List.set_cons_succ]
      refine anyU_take2 (i := 5) (v := .int .i64 e.1) (by simp only [List.getElem?_toArray, List.getElem?_cons_succ, List.getElem?_cons_zero]; exact rfl) (by kernel_rfl) 12 (by kernel_rfl) (by kernel_rfl) (fun _ _ _ h => h) (by kernel_rfl) (by kernel_rfl) (by kernel_rfl) (by kernel_rfl) (Or.inl ⟨by rfl, fun w hSw => (by have x0 := (HX.out _ hSw).r; go_simp; try with_reducible rfl)⟩) (by with_reducible exact HD.out) ?_
      try simp only [Act.put, List.setIfInBounds_toArray, List.set_cons_zero, List.set_cons_succ]
      refine anyU_take2 (i := 6) (v := .slice (some ⟨q, off, none⟩) m c) (by simp only [List.getElem?_toArray, List.getElem?_cons_succ, List.getElem?_cons_zero]; exact rfl) (by kernel_rfl) 12 (by kernel_rfl) (by kernel_rfl) (fun _ _ _ h => h) (by kernel_rfl) (by kernel_rfl) (by kernel_rfl) (by kernel_rfl) (Or.inl ⟨by rfl, fun w hSw => (by go_simp; try with_reducible rfl)⟩) (by with_reducible exact HD.out) ?_
      try simp only [Act.put, List.setIfInBounds_toArray, List.set_cons_zero, List.set_cons_succ]
      refine anyU_take2 (i := 7) (v := .int .i64 (k : Nat)) (by simp only [List.getElem?_toArray, List.getElem?_cons_succ, List.getElem?_cons_zero]; exact rfl) (by kernel_rfl) 12 (by kernel_rfl) (by kernel_rfl) (fun _ _ _ h => h) (by kernel_rfl) (by kernel_rfl) (by kernel_rfl) (by kernel_rfl) (Or.inl ⟨by rfl, fun w hSw => (by go_simp; try with_reducible rfl)⟩) (by with_reducible exact HD.out) ?_
      try simp only [Act.put, List.setIfInBounds_toArray, List.set_cons_zero, List.set_cons_succ]
      refine anyU_take2 (i := 8) (v := .pointer (some ⟨q, off + k * 22, none⟩)) (by simp only [List.getElem?_toArray, List.getElem?_cons_succ, List.getElem?_cons_zero]; exact rfl) (by kernel_rfl) 12 (by kernel_rfl) (by kernel_rfl) (fun _ _ _ h => h) (by kernel_rfl) (by kernel_rfl) (by kernel_rfl) (by kernel_rfl) (Or.inl ⟨by rfl, fun w hSw => (by go_simp; try with_reducible rfl)⟩) (by with_reducible exact HD.out) ?_
      try simp only [Act.put, List.setIfInBounds_toArray, List.set_cons_zero, List.set_cons_succ]
      refine anyU_take2 (i := 9) (v := .pointer (some ⟨q, off + k * 22 + 1, none⟩)) (by simp only [List.getElem?_toArray, List.getElem?_cons_succ, List.getElem?_cons_zero]; exact rfl) (by kernel_rfl) 12 (by kernel_rfl) (by kernel_rfl) (fun _ _ _ h => h) (by kernel_rfl) (by kernel_rfl) (by kernel_rfl) (by kernel_rfl) (Or.inl ⟨by rfl, fun w hSw => (by go_simp; try with_reducible rfl)⟩) (by with_reducible exact HD.out) ?_
      try simp only [Act.put, List.setIfInBounds_toArray, List.set_cons_zero, List.set_cons_succ]
      refine anyU_take2 (i := 10) (v := .agg (clC e.2)) (by simp only [List.getElem?_toArray, List.getElem?_cons_succ, List.getElem?_cons_zero]; exact rfl) (by kernel_rfl) 12 (by kernel_rfl) (by kernel_rfl) (fun _ _ _ h => h) (by kernel_rfl) (by kernel_rfl) (by kernel_rfl) (by kernel_rfl) (Or.inl ⟨by rfl, fun w hSw => exec_load_gp (cs := e.2.l) rfl rfl (HX.out _ hSw).c ce_under rfl (by rw [Cl.len he8]; exact ce_info)⟩) (by with_reducible exact HD.out) ?_
      try simp only [Act.put, List.setIfInBounds_toArray, List.set_cons_zero, List.set_cons_succ]
      refine anyU_take2 (i := 11) (v := .agg (sdA e)) (by simp only [List.getElem?_toArray, List.getElem?_cons_succ, List.getElem?_cons_zero]; exact rfl) (by kernel_rfl) 12 (by kernel_rfl) (by kernel_rfl) (fun _ _ _ h => h) (by kernel_rfl) (by kernel_rfl) (by kernel_rfl) (by kernel_rfl) (Or.inl ⟨by rfl, fun w hSw => (exec_build_2 (u0 := .int .i64 e.1) (u1 := .agg (clC e.2)) (v := .agg (sdA e)) rfl rfl rfl (fill_rsd he8 _))⟩) (by with_reducible exact HD.out) ?_
      try simp only [Act.put, List.setIfInBounds_toArray, List.set_cons_zero, List.set_cons_succ]
      refine anyU_one (i := 12) (by kernel_rfl) (by simp only [List.getElem?_toArray, List.getElem?_cons_succ, List.getElem?_cons_zero]; exact rfl) (fun K hK => ?_)
      refine step_lit1r rfl (lit_rsd he8 _) ?_
      have HE := hide (Row.new wd 80 (sdA e))
      replace HR := hide (HR.out.below (kept_alloc (kept_refl wd) (.cells (sdA e) 80)))
      replace HD := hide (kept_trans HD.out (kept_alloc (kept_refl wd) (.cells (sdA e) 80)))
      generalize wd.alloc (.cells (sdA e) 80) = we at HE HR HD ⊢
      generalize wd.heap.size = ge at HE ⊢
      refine hK.out _ _ (fun _ _ => HD.out) ?_
      clear hK K
      try simp only [Act.put, List.setIfInBounds_toArray, List.set_cons_zero, List.set_cons_succ]
      refine anyU_one (i := 13) (by kernel_rfl) (by simp only [List.getElem?_toArray, List.getElem?_cons_succ, List.getElem?_cons_zero]; exact rfl) (fun K hK => ?_)
      refine step_append_rsd rfl HR.out rfl HE.out he8 hll HD.out.size ?_
      intro v7 wf hn hg
      replace HD := hide (below_opt HD.out hg (fun j e => (HR.out.lt j e).1))
      have HN := hide hn
      clear hn hg
      refine hK.out _ _ (fun _ _ => HD.out) ?_
      clear hK K
      try simp only [Act.put, List.setIfInBounds_toArray, List.set_cons_zero, List.set_cons_succ]
      refine anyU_one (i := 14) (by kernel_rfl) (by simp only [List.getElem?_toArray, List.getElem?_cons_succ, List.getElem?_cons_zero]; exact rfl) (fun K hK => ?_)
      try go_simp
      refine hK.out _ _ (fun e _ => absurd rfl e) ?_
      clear hK K
      try simp only [Act.put]
      refine anyU_done (by kernel_rfl) ?_
      refine NoPanic.normal ?_
      try simp only [Act.put]
      go_wp2
      go_roundw
      case rel => exact ⟨k + 1, by omega, by go_num, hide (by rw [HT.out]; exact HN.out), HD⟩
      case measure => simp [intOf]; omega
    · have hlti : ¬ (k : Int) < (m : Int) := by omega
      have hkm : k = m := by omega
      subst hkm
      have htk : l.take k = l := List.take_of_length_le (by rw [HM.out]; exact Nat.le_refl _)
      rw [htk] at HR
      obtain ⟨B, d, hv, hs⟩ := HR.out.sds HL.out.a8
      rw [HM.out] at hv
      injection hv with e1 _ e3
      subst e1 e3
      go_wp2
      go_ret
      exact ⟨⟨B0, ⟨d0, rfl⟩, hs⟩, HB.out⟩
end Go.Proofs.Ytjkdccokiaejhaa
