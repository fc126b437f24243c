/- Proved: the law CmdReads returns true. Conditions: none beyond the row's own. -/
import Derived.Test.YtigbplmfhnamkaaFrame
import Derived.Test.YtigbplmfhnamkaaRuns
import Derived.Test.YtigbplmfhnamkaaGetd
import Derived.Test.YtigbplmfhnamkaaWithin
import Derived.Deep.DeepCutAuto
import Derived.Deep.RegionWith
import Derived.LoopTactic
namespace Go.Proofs.Ytigbplmfhnamkaa.cmdReads
open Go.ChangeShapes Go.WideShapes Go.ChangeAt Go.RowKit
/-- Both readers, and what was there. -/
structure Pass (W w : World) (g h : Nat) (zs : List Int) (i : Nat) (e : Int) : Prop where
  p : Rdr 59 w g g zs i e
  r : Rdr 45 w W.heap.size h zs i e
  old : Below W.heap.size W w
  gh : g < h
  hg : W.heap.size ≤ g
/-- The first has read, the other not yet. -/
structure Mid (W w : World) (g h : Nat) (zs : List Int) (i : Nat) (e : Int) (i' : Nat) (e' : Int) : Prop where
  p : Rdr 59 w g g zs i' e'
  r : Rdr 45 w W.heap.size h zs i e
  old : Below W.heap.size W w
  gh : g < h
  hg : W.heap.size ≤ g
section
variable {W w w' : World} {g h i i' : Nat} {zs : List Int} {e e' : Int} {V : Cm}
theorem below_drew {B : Nat} {a w : World} (hb : Below B a w) : Below B a w.drew := below_drewN' hb 1
theorem Pass.drew (s : Pass W w g h zs i e) : Pass W w.drew g h zs i e := ⟨s.p.drewN 1, s.r.drewN 1, below_drew s.old, s.gh, s.hg⟩
theorem Mid.drew (s : Mid W w g h zs i e i' e') : Mid W w.drew g h zs i e i' e' := ⟨s.p.drewN 1, s.r.drewN 1, below_drew s.old, s.gh, s.hg⟩
theorem Pass.get (s : Pass W w g h zs i e) (hV : getV zs i e = V) (hI : getA zs i e = i') (hE : getE zs i e = e') :
    Calls Try.prog 23 #[.pointer (some ⟨g, 0, none⟩)] w fun y w' => y = .returned (valC V) ∧ Mid W w' g h zs i e i' e' := by
  subst hV hI hE
  exact (get_any s.p).mono fun _ _ ⟨hy, hr, hg⟩ => ⟨hy, hr, s.r.far hg (by have := s.gh; omega) s.hg, s.old.grown hg s.old.size (fun k hk => by injection hk with hk; subst hk; exact s.hg), s.gh, s.hg⟩
theorem Mid.get (s : Mid W w g h zs i e i' e') (hV : getV zs i e = V) (hI : getA zs i e = i') (hE : getE zs i e = e') :
    Calls Try.prog 24 #[.pointer (some ⟨h, 0, none⟩)] w fun y w' => y = .returned (valC V) ∧ w'.cell? ⟨h, 2, none⟩ = some (.int .i64 e') ∧ Pass W w' g h zs i' e' := by
  subst hV hI hE
  exact (docget_any s.r).mono fun _ _ ⟨hy, hr, hg⟩ => by
    have h1 := s.gh
    have h2 := s.hg
    obtain ⟨_, _, _, _, c2, _⟩ := hr.cells
    exact ⟨hy, c2, s.p.far hg (by omega) (by omega), hr, s.old.grown hg s.old.size (fun k hk => by injection hk with hk; subst hk; omega), s.gh, s.hg⟩
end
theorem neq_cmd (k c q : Int) (a b o v : ByteArray) (w : World) :
    (binOp .neq 23 (.agg #[.int .i64 k, .int .i64 c, .int .i64 q, .string a, .string b, .string o, .string v]) (.agg #[.int .i64 k, .int .i64 c, .int .i64 q, .string a, .string b, .string o, .string v])).run Try.prog w = .ok (.bool false) w := by
  have h := eql_cmd k c q a b o v k c q a b o v w
  rw [sameC_iff.2 rfl, run_eql_struct] at h
  rw [run_neq_struct]
  generalize (Op.equalIn 10000 23 (.agg #[.int .i64 k, .int .i64 c, .int .i64 q, .string a, .string b, .string o, .string v]) (.agg #[.int .i64 k, .int .i64 c, .int .i64 q, .string a, .string b, .string o, .string v])).run Try.prog w = r at *
  cases r with
  | ok b' w' => simp at h; obtain ⟨rfl, rfl⟩ := h; simp
  | halt x w' => simp [Result.andThen] at h
set_option maxRecDepth 100000 in
set_option maxHeartbeats 8000000 in
theorem walk (A : Option Addr) (n c : Nat) (zs : List Int) (m : Int) (W : World) (s : SliceIn W A n c zs) (_hm : -9223372036854775808 ≤ m ∧ m ≤ 9223372036854775807) :
    Calls Try.prog 5 #[.slice A n c, .int .i64 m] W fun e w' => e = .returned (.bool true) ∧ Below W.heap.size W w' := by
  have hnc := s.le
  have hroom := s.room
  have S := hide s
  have hb := withinI_bounds m 1 5 (by omega)
  have HW := hide fun w1 => within_any m 1 5 w1 (by omega) (by omega) (by omega)
  generalize withinI m 1 5 = t at *
  obtain ⟨K, hK⟩ := Int.eq_ofNat_of_zero_le (show 0 ≤ t by omega)
  subst hK
  have HD := hide (show Deep W W.heap.size A zs from s.lies.deep)
  clear s
  go_enter Try.func5, Try.ntmps5
  go_wp2_with (first
    | (go_at_call 20; (with_reducible refine (pread_any A n c zs W S.out.len S.out.lies S.out.oct S.out.nil (by omega)).mono ?_); rintro e w1 ⟨g, rfl, hg, hp, hb1⟩; have HP := hide hp; have HB := hide hb1; clear hp hb1)
    | (go_at_call 21; (with_reducible refine (rread_any A n c W.heap.size zs w1 S.out.len (HD.out.keep fun k hk => HB.out.block k hk) HB.out.size S.out.oct hnc (by omega)).mono ?_); rintro e w2 ⟨h, rfl, hh, hr, hb2⟩; have st := hide (show Pass W w2 g h zs 0 0 from ⟨HP.out.below hb2, hr, HB.out.trans (hb2.mono HB.out.size), by have := HP.out.lt; omega, hg⟩); clear hr hb2)
    | (go_at_call 22; (with_reducible refine (HW.out _).mono ?_); rintro e w3 ⟨rfl, rfl⟩))
  clear HP HB HD S HW hh hg hnc hroom
  go_loopw [7] (fun v wr => ∃ k i e, k ≤ 5 ∧ v = .int .i64 (k : Nat) ∧ Hid (Pass W wr g h zs i e)) (fun v _ => (intOf v).toNat)
  case atStart => exact ⟨K, 0, 0, by omega, rfl, st⟩
  case round =>
    clear st
    obtain ⟨k, i, e, hk, rfl, st⟩ := hrel
    by_cases h0 : 0 < k
    · have t1 : decide (0 < k) = true := decide_eq_true h0
      have t2 : decide ((0 : Int) < (k : Int)) = true := decide_eq_true (by omega)
      obtain ⟨V, hV⟩ : ∃ x, getV zs i e = x := ⟨_, rfl⟩
      obtain ⟨I, hI⟩ : ∃ x, getA zs i e = x := ⟨_, rfl⟩
      obtain ⟨E, hE⟩ : ∃ x, getE zs i e = x := ⟨_, rfl⟩
      have hG := fun w1 (s : Pass W w1 g h zs i e) => s.get hV hI hE
      have hG' := fun w1 (s : Mid W w1 g h zs i e I E) => s.get hV hI hE
      unfold valC at hG hG'
      obtain ⟨vk, vc, vq, va, vb, vo, vv⟩ := V
      simp only at hG hG'
      have HG := hide hG
      have HG' := hide hG'
      have hne := neq_cmd vk vc vq va vb vo vv
      clear hG hG' hV hI hE
      go_wp2_with fail
      go_region_with
        (first
          | (go_at_call 23; (with_reducible refine (HG.out _ (by first | with_reducible exact st.out | with_reducible exact Pass.drew st.out)).mono ?_); rintro y w4 ⟨rfl, s4⟩; have s4 := hide s4)
          | (go_at_call 24; (with_reducible refine (HG'.out _ (by first | with_reducible exact s4.out | with_reducible exact Mid.drew s4.out)).mono ?_); rintro y w5 ⟨rfl, d2, s5⟩; have s5 := hide s5)
          | (go_at_call 25; (with_reducible refine (pwrong_any s5.out.p).mono ?_); rintro y w6 ⟨rfl, rfl⟩))
      all_goals
        go_wp2_with fail
        go_roundw
        case rel => exact ⟨k - 1, _, _, by omega, by go_num, by first | exact s5 | exact hide (Pass.drew s5.out)⟩
        case measure => simp [intOf]; omega
    · have t1 : decide (0 < k) = false := decide_eq_false h0
      have t2 : decide ((0 : Int) < (k : Int)) = false := decide_eq_false (by omega)
      go_wp2_with (go_at_call 3; (with_reducible refine (runs_any _).mono ?_); rintro e w9 ⟨rfl, k9⟩)
      go_ret
      exact ⟨rfl, st.out.old.trans (k9.mono st.out.old.size)⟩
set_option maxRecDepth 100000 in
theorem lifted (os : Os) (started : os.Started) (H : Type) (enc : TypeId × Value → H) :
    ReturnsInHanded {} Try.checked os 5 .any (Rows.cmdReadsSpec.pre6 enc Try.prog Try.f5 Rows.cmdReadsRow.domain false) (Rows.cmdReadsSpec.post enc Try.prog Try.f5 false true false false) := by
  refine returnsInHanded_of_change_sized (C := Try.checked) own started (by kernel_rfl) Try.func5
    (ChangeSpec.witness6 (enc := enc) (C := Try.checked) false ⟨#[], #[.slice none 0 0, .int .i64 0], []⟩ 8 (by kernel_rfl) (by kernel_rfl) (by kernel_rfl) (by kernel_rfl)) ?_
  intro W base args ds gs before hval0 hW _ hsz0 _
  have hval : ∀ (j : Nat) t v, Try.f5.params[j]? = some t → args[j]? = some v → Value.okWide Try.prog W .any base t v := hval0
  have hW' := hW
  obtain ⟨p, q, hA0, hV, rfl, _, _⟩ := hW
  have hA : DataW.TrodAll enc Try.prog W 0 (fun _ => true) true Try.f5.params.toList args.toList ds p := hA0
  have hsz : (DataW.weightsEach Try.prog (Try.f5.params.toList ++ Rows.cmdReadsSpec.plain.varTypes Try.prog) (ds ++ gs)).all (· ≤ reachBytes) = true := hsz0
  rw [Try.params5] at hA hval hsz
  obtain ⟨v0, vs0, d0, ds0, p0, q0, hargs, rfl, rfl, h0, r0⟩ := trodAll_cons hA
  obtain ⟨v1, vs1, d1, ds1, p1, q1, rfl, rfl, rfl, h1, r1⟩ := trodAll_cons r0
  obtain ⟨rfl, rfl, rfl⟩ := trodAll_nil r1
  obtain rfl : args = #[v0, v1] := by cases args; simp_all
  obtain ⟨rfl, rfl⟩ := trodVars_none hV
  have k0 := h0
  have lt0 : ∀ x ∈ p0, x.block < W.heap.size := by obtain ⟨m, hm⟩ := k0; exact DataW.trod_lt m _ _ _ hm
  obtain ⟨A0, n0, c0, rfl⟩ := okWide_slice Try.underlying27 (hval 0 27 v0 rfl rfl)
  obtain ⟨z0, s0⟩ := slice_in (j := 0) h0 hsz rfl rfl
  obtain ⟨a1, rfl, rfl, rfl, w1⟩ := open_int Try.underlying3 (hval 1 3 v1 rfl rfl) h1
  clear hA0 hval0
  refine (walk A0 n0 c0 z0 a1 W s0 (bounds_i64 w1)).mono fun e W' ⟨he, bel⟩ => ?_
  subst he
  exact ⟨_, rfl, _, _, _, [], _, [], hW', trodAll_mk1 (shut_bool Try.underlying4 _), (trodAll_cons_mk (Below.trod laidOut (by kernel_rfl) (of_decide_eq_true (by kernel_rfl)) k0 bel lt0) (trodAll_cons_mk (shut_int Try.underlying3 w1) trodAll_mk0)), rfl, bel.frame _, fun h => by cases h⟩
theorem over : Rows.cmdReadsRow.holds Try.pinned (OpenSpec.ofChange Rows.cmdReadsSpec) :=
  OpenClaim.holds_of_wide 5 Try.f5 rfl rfl rfl rfl rfl rfl rfl ⟨rfl, rfl, rfl, rfl, rfl⟩ rfl rfl rfl rfl rfl (by kernel_rfl) Try.func5 (by kernel_rfl)
    (of_decide_eq_true (by kernel_rfl)) (by unfold Func.isWrapper; first | (rw [if_pos (by decide +kernel)]; kernel_rfl) | (rw [if_neg (by decide +kernel)]; exact ⟨rfl, rfl⟩))
    (fun os started H enc _ => lifted os started H enc)
theorem proved : Rows.CmdReadsSaid := over
end Go.Proofs.Ytigbplmfhnamkaa.cmdReads
