/- Proved: the law SumParts returns true. Conditions: none beyond the row's own. -/
import Derived.Test.YtipfjlopgidbcaaFrame
import Derived.Test.YtipfjlopgidbcaaRuns
import Derived.Test.YtipfjlopgidbcaaWithin
import Derived.Deep.DeepCutAuto
import Derived.Deep.RegionHeld3
import Derived.Deep.DrawnRows
namespace Go.Proofs.Ytipfjlopgidbcaa.sumParts
open Go.ChangeShapes Go.WideShapes Go.ChangeAt Go.RowKit
theorem within_to (n : Int) (lo hi : Nat) (h : lo ≤ hi) (l : hi ≤ 4611686018427387904) : ∃ K : Nat, lo ≤ K ∧ K ≤ hi ∧ ∀ w : World, Calls Try.prog 12 #[.int .i64 n, .int .i64 (lo : Int), .int .i64 (hi : Int)] w fun e w' => e = .returned (.int .i64 (K : Int)) ∧ w = w' := by
  have hb := withinI_bounds n lo hi (by omega)
  refine ⟨(withinI n lo hi).toNat, by omega, by omega, fun w => ?_⟩
  rw [Int.toNat_of_nonneg (by omega)]
  exact within_any n lo hi w (by omega) (by omega) (by omega)
theorem octets_take {zs : List Int} (h : Octets zs) (k : Nat) : Octets (zs.take k) := fun z hz => h z (List.mem_of_mem_take hz)
theorem octets_drop {zs : List Int} (h : Octets zs) (k : Nat) : Octets (zs.drop k) := fun z hz => h z (List.mem_of_mem_drop hz)
theorem nats_append (xs ys : List Int) : nats (xs ++ ys) = nats xs ++ nats ys := List.map_append
theorem on_1 {W w : World} {A : Option Addr} {n c : Nat} {zs : List Int} (S : SliceIn W A n c zs) {X I : Nat} (hX : X < 4294967296) (hl : Lies w A zs) (hI : I ≤ n) :
    Calls Try.prog 9 #[.int .u32 X, .slice A I c] w fun e w' => e = .returned (.int .u32 (crc X (nats (zs.take I)) : Nat)) ∧ w = w' :=
  have hn := S.len; have h1 := S.le; have h2 := S.room
  on_any A I c (zs.take I) X w hX (by rw [List.length_take]; omega) (hl.take I) (octets_take S.oct I) (by omega)
theorem on_2 {W w : World} {A : Option Addr} {n c : Nat} {zs : List Int} (S : SliceIn W A n c zs) {X I J : Nat} (hX : X < 4294967296) (hl : Lies w A zs) (hI : I ≤ J) (hJ : J ≤ n) :
    Calls Try.prog 9 #[.int .u32 (crc X (nats (zs.take I)) : Nat), .slice (partA A c I) (J - I) (c - I)] w fun e w' => e = .returned (.int .u32 (crc X (nats (zs.take J)) : Nat)) ∧ w = w' := by
  have hn := S.len; have h1 := S.le; have h2 := S.room
  have h := on_any _ (J - I) (c - I) ((zs.drop I).take (J - I)) (crc X (nats (zs.take I))) w (crc_lt hX (bytes_nats (octets_take S.oct I))) (by rw [List.length_take, List.length_drop]; omega) (hl.part (c := c) (by omega) I (J - I)) (octets_take (octets_drop S.oct I) _) (by omega)
  have e : zs.take I ++ (zs.drop I).take (J - I) = zs.take J := by rw [← List.take_add]; congr 1; omega
  rwa [crc_append, ← nats_append, e] at h
theorem on_3 {W w : World} {A : Option Addr} {n c : Nat} {zs : List Int} (S : SliceIn W A n c zs) {X J : Nat} (hX : X < 4294967296) (hl : Lies w A zs) (hJ : J ≤ n) :
    Calls Try.prog 9 #[.int .u32 (crc X (nats (zs.take J)) : Nat), .slice (partA A c J) (n - J) (c - J)] w fun e w' => e = .returned (.int .u32 (crc X (nats zs) : Nat)) ∧ w = w' := by
  have hn := S.len; have h1 := S.le; have h2 := S.room
  have h := on_any _ (n - J) (c - J) (zs.drop J) (crc X (nats (zs.take J))) w (crc_lt hX (bytes_nats (octets_take S.oct J))) (by rw [List.length_drop]; omega) (hl.rest (c := c) (by omega) J) (octets_drop S.oct J) (by omega)
  rwa [crc_append, ← nats_append, List.take_append_drop] at h
theorem on_0 {W w : World} {A : Option Addr} {n c : Nat} {zs : List Int} (S : SliceIn W A n c zs) {X : Nat} (hX : X < 4294967296) (hl : Lies w A zs) :
    Calls Try.prog 9 #[.int .u32 X, .slice A n c] w fun e w' => e = .returned (.int .u32 (crc X (nats zs) : Nat)) ∧ w = w' :=
  have h1 := S.le; have h2 := S.room
  on_any A n c zs X w hX S.len hl S.oct (by omega)
theorem on_nil {w : World} {X : Nat} (hX : X < 4294967296) :
    Calls Try.prog 9 #[.int .u32 X, .slice none 0 0] w fun e w' => e = .returned (.int .u32 X) ∧ w = w' := by
  have h := on_any none 0 0 [] X w hX rfl Lies.none_ (by unfold Octets; decide) (by omega)
  rwa [show nats [] = [] from rfl, crc_nil] at h
set_option maxHeartbeats 1000000 in
theorem walk (a0 : Int) (A : Option Addr) (n c : Nat) (zs : List Int) (a2 a3 : Int) (W : World) (b0 : 0 ≤ a0 ∧ a0 ≤ 4294967295) (s : SliceIn W A n c zs) (_ : -9223372036854775808 ≤ a2 ∧ a2 ≤ 9223372036854775807) (_ : -9223372036854775808 ≤ a3 ∧ a3 ≤ 9223372036854775807) :
    Calls Try.prog 5 #[.int .u32 a0, .slice A n c, .int .i64 a2, .int .i64 a3] W fun e w' => e = .returned (.bool true) ∧ Below W.heap.size W w' := by
  obtain ⟨X, rfl⟩ := Int.eq_ofNat_of_zero_le b0.1
  have hX : X < 4294967296 := by omega
  have lc := s.room
  have lnc := s.le
  obtain ⟨I, hI0, hI, hw1⟩ := within_to a2 0 n (by omega) (by omega)
  obtain ⟨J, hJ0, hJ, hw2⟩ := within_to a3 I n hI (by omega)
  have hw1 := hide hw1; have hw2 := hide hw2
  have S := hide s
  clear s b0
  have z0 : ((0 : Nat) : Int) = 0 := rfl
  rw [z0] at hw1
  clear z0
  go_enter Try.func5, Try.ntmps5
  go_upto_region 3 with (first
    | (go_at_call 12; (with_reducible refine (hw1.out _).mono ?_); rintro e w1 ⟨rfl, rfl⟩)
    | (go_at_call 12; (with_reducible refine (hw2.out _).mono ?_); rintro e w1 ⟨rfl, rfl⟩))
  have i0 : (0 : Int) ≤ (I : Int) := by omega
  have i1 : (I : Int) ≤ (c : Int) := by omega
  have i2 : (0 : Int) ≤ (J : Int) := by omega
  have i3 : (J : Int) ≤ (c : Int) := by omega
  have i4 : (I : Int) ≤ (J : Int) := by omega
  have i5 : (J : Int) ≤ (n : Int) := by omega
  have i6 : I ≤ c := by omega
  have i7 : J ≤ c := by omega
  have hl := hide S.out.lies
  have p1 : (if c = I then A else Option.map (fun x => x.add I) A) = partA A c I := rfl
  have p2 : (if c = J then A else Option.map (fun x => x.add J) A) = partA A c J := rfl
  go_region_held3 (fun w' => True) (go_keep) (first
    | (go_at_call 9; (with_reducible refine (on_2 S.out hX hl.out.drew hJ0 hJ).mono ?_); rintro e w' ⟨rfl, rfl⟩)
    | (go_at_call 9; (with_reducible refine (on_3 S.out hX hl.out.drew hJ).mono ?_); rintro e w' ⟨rfl, rfl⟩)
    | (go_at_call 9; (with_reducible refine (on_0 S.out hX hl.out.drew).mono ?_); rintro e w' ⟨rfl, rfl⟩)
    | (go_at_call 9; (with_reducible refine (on_1 S.out hX hl.out.drew hI).mono ?_); rintro e w' ⟨rfl, rfl⟩)
    | (go_at_call 9; (with_reducible refine (on_nil hX).mono ?_); rintro e w' ⟨rfl, rfl⟩)
    | (go_at_call 3; (with_reducible refine (runs_any _).mono ?_); rintro e w9 ⟨rfl, hb9⟩))
  all_goals
    go_wp2_with fail
    go_ret
    exact ⟨rfl, kept_trans (kept_refl W).drew hb9⟩
set_option maxRecDepth 100000 in
theorem lifted (os : Os) (started : os.Started) (H : Type) (enc : TypeId × Value → H) :
    ReturnsInHanded {} Try.checked os 5 .any (Rows.sumPartsSpec.pre6 enc Try.prog Try.f5 Rows.sumPartsRow.domain false) (Rows.sumPartsSpec.post enc Try.prog Try.f5 false true false false) := by
  refine returnsInHanded_of_change_sized (C := Try.checked) own started (by kernel_rfl) Try.func5
    (ChangeSpec.witness6 (enc := enc) (C := Try.checked) false ⟨#[], #[.int .u32 0, .slice none 0 0, .int .i64 0, .int .i64 0], []⟩ 8 (by kernel_rfl) (by kernel_rfl) (by kernel_rfl) (by kernel_rfl)) ?_
  intro W base args ds gs before hval0 hW _ hsz0 _
  have hval : ∀ (j : Nat) t v, Try.f5.params[j]? = some t → args[j]? = some v → Value.okWide Try.prog W .any base t v := hval0
  have hW' := hW
  obtain ⟨p, q, hA0, hV, rfl, _, _⟩ := hW
  have hA : DataW.TrodAll enc Try.prog W 0 (fun _ => true) true Try.f5.params.toList args.toList ds p := hA0
  have hsz : (DataW.weightsEach Try.prog (Try.f5.params.toList ++ Rows.sumPartsSpec.plain.varTypes Try.prog) (ds ++ gs)).all (· ≤ reachBytes) = true := hsz0
  rw [Try.params5] at hA hval hsz
  obtain ⟨v0, vs0, d0, ds0, p0, q0, hargs, rfl, rfl, h0, r0⟩ := trodAll_cons hA
  obtain ⟨v1, vs1, d1, ds1, p1, q1, rfl, rfl, rfl, h1, r1⟩ := trodAll_cons r0
  obtain ⟨v2, vs2, d2, ds2, p2, q2, rfl, rfl, rfl, h2, r2⟩ := trodAll_cons r1
  obtain ⟨v3, vs3, d3, ds3, p3, q3, rfl, rfl, rfl, h3, r3⟩ := trodAll_cons r2
  obtain ⟨rfl, rfl, rfl⟩ := trodAll_nil r3
  obtain rfl : args = #[v0, v1, v2, v3] := by cases args; simp_all
  obtain ⟨rfl, rfl⟩ := trodVars_none hV
  obtain ⟨a0, rfl, rfl, rfl, w0⟩ := open_int Try.underlying22 (hval 0 22 v0 rfl rfl) h0
  have k1 := h1
  have lt1 : ∀ x ∈ p1, x.block < W.heap.size := by obtain ⟨m, hm⟩ := k1; exact DataW.trod_lt m _ _ _ hm
  obtain ⟨A1, n1, c1, rfl⟩ := okWide_slice Try.underlying24 (hval 1 24 v1 rfl rfl)
  obtain ⟨z1, s1⟩ := slice_in (j := 1) h1 hsz rfl rfl
  obtain ⟨a2, rfl, rfl, rfl, w2⟩ := open_int Try.underlying3 (hval 2 3 v2 rfl rfl) h2
  obtain ⟨a3, rfl, rfl, rfl, w3⟩ := open_int Try.underlying3 (hval 3 3 v3 rfl rfl) h3
  clear hA0 hval0
  refine (walk a0 A1 n1 c1 z1 a2 a3 W (bounds_u32 w0) s1 (bounds_i64 w2) (bounds_i64 w3)).mono fun e W' ⟨he, bel⟩ => ?_
  subst he
  exact ⟨_, rfl, _, _, _, [], _, [], hW', trodAll_mk1 (shut_bool Try.underlying4 _), (trodAll_cons_mk (shut_int Try.underlying22 w0) (trodAll_cons_mk (Below.trod laidOut (by kernel_rfl) (of_decide_eq_true (by kernel_rfl)) k1 bel lt1) (trodAll_cons_mk (shut_int Try.underlying3 w2) (trodAll_cons_mk (shut_int Try.underlying3 w3) trodAll_mk0)))), rfl, bel.frame _, fun h => by cases h⟩
theorem over : Rows.sumPartsRow.holds Try.pinned (OpenSpec.ofChange Rows.sumPartsSpec) :=
  OpenClaim.holds_of_wide 5 Try.f5 rfl rfl rfl rfl rfl rfl rfl ⟨rfl, rfl, rfl, rfl, rfl⟩ rfl rfl rfl rfl rfl (by kernel_rfl) Try.func5 (by kernel_rfl)
    (of_decide_eq_true (by kernel_rfl)) (by unfold Func.isWrapper; first | (rw [if_pos (by decide +kernel)]; kernel_rfl) | (rw [if_neg (by decide +kernel)]; exact ⟨rfl, rfl⟩))
    (fun os started H enc _ => lifted os started H enc)
theorem proved : Rows.SumPartsSaid := over
end Go.Proofs.Ytipfjlopgidbcaa.sumParts
