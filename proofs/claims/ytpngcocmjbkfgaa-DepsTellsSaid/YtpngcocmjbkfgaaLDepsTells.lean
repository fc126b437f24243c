/- Proved: the law DepsTells returns true. Conditions: none beyond the row's own. -/
import Derived.Test.YtpngcocmjbkfgaaFrame
import Derived.Test.YtpngcocmjbkfgaaRuns
import Derived.Test.YtpngcocmjbkfgaaCov
import Derived.Test.YtpngcocmjbkfgaaArgs8
import Derived.Test.YtpngcocmjbkfgaaRefm
import Derived.Test.YtpngcocmjbkfgaaMostp
import Derived.Test.YtpngcocmjbkfgaaJoinc
import Derived.Test.YtpngcocmjbkfgaaRefj
import Derived.Test.YtpngcocmjbkfgaaReflist
import Derived.Test.YtpngcocmjbkfgaaListp
import Derived.Test.YtpngcocmjbkfgaaIntact8
import Derived.Test.YtpngcocmjbkfgaaTail
import Derived.Test.YtpngcocmjbkfgaaAt
import Derived.Test.YtpngcocmjbkfgaaReachp
import Derived.Deep.DeepCutAuto
namespace Go.Proofs.Ytpngcocmjbkfgaa.depsTells
open Go.ChangeShapes Go.WideShapes Go.ChangeAt Go.RowKit
/-- The mark. -/
def nine8 : List Int := [9, 0, 0, 0, 0, 0, 0, 0]
/-- What came in, in blocks of its own; the slice; its roomy copy at S. -/
structure Bi (W w : World) (d f : List Int) (x y : Int) : Prop where
  low : Below W.heap.size W w
  d : Row w W.heap.size 23 (cA d)
  f : Row w (W.heap.size + 1) 23 (cA f)
  i : Row w (W.heap.size + 1 + 1) 34 #[.int .i64 x, .int .i64 y]
structure Bd (W w : World) (d f : List Int) (x y : Int) (A : Option Addr) (S : Nat) (L : List (List Int)) : Prop where
  b : Bi W w d f x y
  l : Its 8 w A L
  r : Its 8 w (some ⟨S, 0, none⟩) (L ++ List.replicate 80 nine8)
section
variable {W w w' w0 : World} {d f : List Int} {x y : Int} {A : Option Addr} {S : Nat} {L : List (List Int)} {u v : List Int}
theorem Bi.step (h : Bi W w d f x y) (hb : Below w.heap.size w w') : Bi W w' d f x y := ⟨kept_trans h.low hb, h.d.below hb h.d.lt, h.f.below hb h.f.lt, h.i.below hb h.i.lt⟩
theorem Bd.step (h : Bd W w d f x y A S L) (hb : Below w.heap.size w w') : Bd W w' d f x y A S L := ⟨h.b.step hb, h.l.below hb, h.r.below hb⟩
theorem Bd.own (h : Bd W w d f x y A S L) : Its 8 w (some ⟨S, 0, none⟩) L := by
  have := h.r.take L.length
  rwa [List.take_left] at this
/-- While it joins: what is wanted. -/
structure Bw (w0 w : World) (u : List Int) : Prop where
  low : Below w0.heap.size w0 w
  w : Row w w0.heap.size 25 (cA u)
theorem Bw.step (h : Bw w0 w u) (hb : Below w.heap.size w w') : Bw w0 w' u := ⟨kept_trans h.low hb, h.w.below hb h.w.lt⟩
theorem Bw.drew (h : Bw w0 w u) : Bw w0 w.drew u := h.step (kept_drewN (kept_refl w) 1)
theorem Bw.put {z0 z1 z2 z3 z4 z5 z6 z7 : Int} (h : Bw w0 w u) (hu : u.length = 8) :
    Bw w0 ((((((((w.setCell ⟨w0.heap.size, 0, none⟩ (.int .i64 z0)).setCell ⟨w0.heap.size, 1, none⟩ (.int .i64 z1)).setCell ⟨w0.heap.size, 2, none⟩ (.int .i64 z2)).setCell ⟨w0.heap.size, 3, none⟩ (.int .i64 z3)).setCell ⟨w0.heap.size, 4, none⟩ (.int .i64 z4)).setCell ⟨w0.heap.size, 5, none⟩ (.int .i64 z5)).setCell ⟨w0.heap.size, 6, none⟩ (.int .i64 z6)).setCell ⟨w0.heap.size, 7, none⟩ (.int .i64 z7)) [z0, z1, z2, z3, z4, z5, z6, z7] := by
  obtain ⟨u0, u1, u2, u3, u4, u5, u6, u7, rfl⟩ := len8 hu
  exact ⟨below_eight h.low (Nat.le_refl _) _ _ _ _ _ _ _ _, row_eight h.w _ _ _ _ _ _ _ _⟩
/-- .. and what stands there most often, twice. -/
structure Bz (w0 w : World) (u v : List Int) (p q : Nat) : Prop where
  b : Bw w0 w u
  p : Row w p 25 (cA v)
  q : Row w q 25 (cA v)
theorem Bz.step {p q : Nat} (h : Bz w0 w u v p q) (hb : Below w.heap.size w w') : Bz w0 w' u v p q := ⟨h.b.step hb, h.p.below hb h.p.lt, h.q.below hb h.q.lt⟩
theorem Bz.drew {p q : Nat} (h : Bz w0 w u v p q) : Bz w0 w.drew u v p q := h.step (kept_drewN (kept_refl w) 1)
end
theorem seven_cA {w : World} {g : Nat} {t : TypeId} {x1 x2 x3 x4 x5 x6 x7 : Int} (h : Row w g t (cA [x1, x2, x3, x4, x5, x6, x7])) : w.cell? ⟨g, 0, none⟩ = some (.int .i64 x1) ∧ w.cell? ⟨g, 1, none⟩ = some (.int .i64 x2) ∧ w.cell? ⟨g, 2, none⟩ = some (.int .i64 x3) ∧ w.cell? ⟨g, 3, none⟩ = some (.int .i64 x4) ∧ w.cell? ⟨g, 4, none⟩ = some (.int .i64 x5) ∧ w.cell? ⟨g, 5, none⟩ = some (.int .i64 x6) ∧ w.cell? ⟨g, 6, none⟩ = some (.int .i64 x7) :=
  ⟨h.cell 0, h.cell 1, h.cell 2, h.cell 3, h.cell 4, h.cell 5, h.cell 6⟩
theorem max_self (z0 z1 z2 z3 z4 z5 z6 z7 : Int) : maxA [z0, z1, z2, z3, z4, z5, z6, z7] [z0, z1, z2, z3, z4, z5, z6, z7] = [z0, z1, z2, z3, z4, z5, z6, z7] := by
  unfold maxA tab8
  simp [ix]
/-- All as far as the k-th, joined. -/
theorem join_next {L : List (List Int)} {k : Nat} {x : List Int} (hk : L[k]? = some x) (h0 : 0 < k) : maxA (joinL (L.take k)) x = joinL (L.take (k + 1)) := by
  rcases L with _ | ⟨a, r⟩
  · simp at hk
  · obtain ⟨j, rfl⟩ : ∃ j, k = j + 1 := ⟨k - 1, by omega⟩
    show maxA ((r.take j).foldl maxA a) x = (r.take (j + 1)).foldl maxA a
    rw [fold_snoc a (by simpa using hk)]
theorem join_first {L : List (List Int)} {x0 x1 x2 x3 x4 x5 x6 x7 : Int} (hk : L[0]? = some [x0, x1, x2, x3, x4, x5, x6, x7]) : maxA [x0, x1, x2, x3, x4, x5, x6, x7] [x0, x1, x2, x3, x4, x5, x6, x7] = joinL (L.take (0 + 1)) := by
  rcases L with _ | ⟨a, r⟩
  · simp at hk
  · have : a = [x0, x1, x2, x3, x4, x5, x6, x7] := by simpa using hk
    subst this
    rw [max_self]
    rfl
set_option maxRecDepth 100000 in
set_option maxHeartbeats 8000000 in
theorem walk (A : Option Addr) (n c : Nat) (l : List (List Int)) (d1 d2 d3 d4 d5 d6 d7 f1 f2 f3 f4 f5 f6 f7 x y : Int) (W : World) (h : AttrsIn W A n c l) (hid : ∀ n, n ∈ [d1, d2, d3, d4, d5, d6, d7] → I64 n) (_ : ∀ n, n ∈ [f1, f2, f3, f4, f5, f6, f7] → I64 n) (_ : -9223372036854775808 ≤ x ∧ x ≤ 9223372036854775807) (_ : -9223372036854775808 ≤ y ∧ y ≤ 9223372036854775807) :
    Calls Try.prog 4 #[.slice A n c, .agg #[.int .i64 d1, .int .i64 d2, .int .i64 d3, .int .i64 d4, .int .i64 d5, .int .i64 d6, .int .i64 d7], .agg #[.int .i64 f1, .int .i64 f2, .int .i64 f3, .int .i64 f4, .int .i64 f5, .int .i64 f6, .int .i64 f7], .agg #[.int .i64 x, .int .i64 y]] W fun e w' => e = .returned (.bool true) ∧ Below W.heap.size W w' := by
  have HID := hide hid
  clear hid
  have hle := h.le
  have hroom := h.room
  have H := hide h
  have KI := hide (show Bi W (((W.alloc (.cells (cA [d1, d2, d3, d4, d5, d6, d7]) 23)).alloc (.cells (cA [f1, f2, f3, f4, f5, f6, f7]) 23)).alloc (.cells #[.int .i64 x, .int .i64 y] 34)) [d1, d2, d3, d4, d5, d6, d7] [f1, f2, f3, f4, f5, f6, f7] x y by
    have h2 := Row.new (W.alloc (.cells (cA [d1, d2, d3, d4, d5, d6, d7]) 23)) 23 (cA [f1, f2, f3, f4, f5, f6, f7])
    have h3 := Row.new ((W.alloc (.cells (cA [d1, d2, d3, d4, d5, d6, d7]) 23)).alloc (.cells (cA [f1, f2, f3, f4, f5, f6, f7]) 23)) 34 #[.int .i64 x, .int .i64 y]
    simp only [World.size_alloc] at h2 h3
    exact ⟨kept_alloc (kept_alloc (kept_alloc (kept_refl W) _) _) _, ((Row.new W _ _).alloc _).alloc _, h2.alloc _, h3⟩)
  clear h
  go_enter Try.func4, Try.ntmps4
  go_upto_region 1 with (fail)
  replace KI : Hid (Bi W (World.alloc (World.alloc (World.alloc W (.cells #[.int .i64 d1, .int .i64 d2, .int .i64 d3, .int .i64 d4, .int .i64 d5, .int .i64 d6, .int .i64 d7] 23)) (.cells #[.int .i64 f1, .int .i64 f2, .int .i64 f3, .int .i64 f4, .int .i64 f5, .int .i64 f6, .int .i64 f7] 23)) (.cells #[.int .i64 x, .int .i64 y] 34)) [d1, d2, d3, d4, d5, d6, d7] [f1, f2, f3, f4, f5, f6, f7] x y) := KI
  generalize World.alloc (World.alloc (World.alloc W _) _) _ = w1 at KI ⊢
  go_upto_if 22 with (fail)
  go_cut [0] (fun s0 wx => ∃ m, m = min n 30 ∧ s0 = .slice A m c ∧ wx = w1)
  case first =>
    by_cases hn : 30 < n
    · have h1 : (30 : Int) < n := by omega
      have h2 : (30 : Int) ≤ c := by omega
      go_wp2
      go_meet
      exact ⟨30, by omega, rfl, rfl⟩
    · have h1 : ¬ (30 : Int) < n := by omega
      go_wp2
      go_meet
      exact ⟨n, by omega, rfl, rfl⟩
  case rest =>
  obtain ⟨m, hm, rfl, hwc⟩ := hcut
  have e := hwc.symm
  subst e
  obtain ⟨L, hL⟩ : ∃ L, l.take m = L := ⟨_, rfl⟩
  have hLm : L.length = m := by rw [← hL, List.length_take, H.out.len]; omega
  have HI : Hid (Its 8 w1 A L) := hL ▸ Its.below (H.out.lies.take m) KI.out.low
  have H8 : Hid (∀ x, x ∈ L → Ok8 x) := fun x hx => H.out.ok x (List.mem_of_mem_take (hL ▸ hx))
  have hm30 : m ≤ 30 := by omega
  have hmc : m ≤ c := by omega
  clear hL hm hle H
  subst hLm
  have HA8 : Hid (All 8 L) := fun x hx => (H8.out x hx).len
  have hroomy := hide (fun w (hw : Its 8 w A L) => roomy8_any A L.length c L 9 0 0 0 0 0 0 0 w rfl HA8.out hw (by omega))
  go_upto_region 4 with (first
    | (go_at_call 10; (with_reducible refine (at0_any 9 _).mono ?_); rintro e w2 ⟨rfl, hb⟩; replace HI := hide (HI.out.below hb); replace KI := hide (KI.out.step hb); clear hb)
    | (go_at_call 16; refine (hroomy.out _ HI.out).mono ?_; rintro e w3 ⟨rfl, hr, hb⟩))
  have KD0 := hide (show Bd W w3 [d1, d2, d3, d4, d5, d6, d7] [f1, f2, f3, f4, f5, f6, f7] x y A (w2.heap.size + 1) L from ⟨KI.out.step hb, HI.out.below hb, hr⟩)
  clear KI HI hr hb hroomy
  generalize w2.heap.size + 1 = S at KD0 ⊢
  have hm0 : (0 : Int) ≤ (L.length : Int) := by omega
  have hm80 : (L.length : Int) ≤ (L.length : Int) + 80 := by omega
  have KW := hide (show Bw w3 (w3.alloc (.cells (cA zero8) 25)) zero8 from ⟨kept_alloc (kept_refl _) _, Row.new _ _ _⟩)
  go_upto_region 6 with (fail)
  replace KW : Hid (Bw w3 (w3.alloc (.cells #[.int .i64 0, .int .i64 0, .int .i64 0, .int .i64 0, .int .i64 0, .int .i64 0, .int .i64 0, .int .i64 0] 25)) zero8) := KW
  generalize World.alloc w3 _ = w4 at KW ⊢
  clear hm0 hm80
  go_wp2
  go_loopw [12] (fun i wr => ∃ k : Nat, k ≤ L.length ∧ i = .int .i64 k ∧ Hid (Bw w3 wr (joinL (L.take k)))) (fun i _ => L.length - (intOf i).toNat)
  case atStart => exact ⟨0, by omega, rfl, KW⟩
  case round =>
    clear KW
    obtain ⟨k, hk, rfl, J⟩ := hrel
    by_cases hlt : k < L.length
    · have hkl : (k : Int) < L.length := by omega
      obtain ⟨z, hx⟩ : ∃ z, L[k]? = some z := ⟨_, List.getElem?_eq_getElem hlt⟩
      obtain ⟨x0, x1, x2, x3, x4, x5, x6, x7, rfl⟩ := len8 (HA8.out.at_ hx)
      obtain ⟨b, off, hA, _, _⟩ := KD0.out.l.at_ hx
      subst hA
      have HE : Hid (∀ (u : List Int) (w' : World), Bw w3 w' u → w'.cell? ⟨b, off + k * 8, none⟩ = some (.int .i64 x0) ∧ w'.cell? ⟨b, off + k * 8 + 1, none⟩ = some (.int .i64 x1) ∧ w'.cell? ⟨b, off + k * 8 + 2, none⟩ = some (.int .i64 x2) ∧ w'.cell? ⟨b, off + k * 8 + 3, none⟩ = some (.int .i64 x3) ∧ w'.cell? ⟨b, off + k * 8 + 4, none⟩ = some (.int .i64 x4) ∧ w'.cell? ⟨b, off + k * 8 + 5, none⟩ = some (.int .i64 x5) ∧ w'.cell? ⟨b, off + k * 8 + 6, none⟩ = some (.int .i64 x6) ∧ w'.cell? ⟨b, off + k * 8 + 7, none⟩ = some (.int .i64 x7)) := fun u w' hw => by
        obtain ⟨b', off', e, _, hc⟩ := (KD0.out.step hw.low).l.at_ hx
        injection e with e
        injection e with e1 e2
        subst e1 e2
        exact eight_lit (eight_at hc)
      have hu : ∃ u, u.length = 8 ∧ (k = 0 → u = [x0, x1, x2, x3, x4, x5, x6, x7]) ∧ (0 < k → u = joinL (L.take k)) ∧ maxA u [x0, x1, x2, x3, x4, x5, x6, x7] = joinL (L.take (k + 1)) := by
        rcases Nat.eq_zero_or_pos k with rfl | h0
        · exact ⟨[x0, x1, x2, x3, x4, x5, x6, x7], rfl, fun _ => rfl, fun h => absurd h (by omega), join_first hx⟩
        · exact ⟨joinL (L.take k), joinL_len (HA8.out.take k), fun h => absurd h (by omega), fun _ => rfl, join_next hx h0⟩
      obtain ⟨u, hu8, hu0, hu1, hun⟩ := hu
      have HU8 := hide (joinL_len (HA8.out.take k))
      have HUN := hide hun
      clear hun hx
      go_upto_if 40 with (fail)
      go_cut [40] from 33 to 60 (fun s40 wx => Bw w3 wx u)
      case first =>
        rcases Nat.eq_zero_or_pos k with h0 | h0
        · obtain rfl := hu0 h0
          have e := HE.out _ _ J.out
          rw [h0] at e
          simp only [Nat.zero_mul, Nat.add_zero] at e
          have lt0 : (0 : Int) < L.length := by omega
          obtain ⟨y, hy⟩ : ∃ y, joinL (L.take k) = y := ⟨_, rfl⟩
          rw [hy] at J HU8
          obtain ⟨y0, y1, y2, y3, y4, y5, y6, y7, rfl⟩ := len8 HU8.out
          obtain ⟨g0, g1, g2, g3, g4, g5, g6, g7⟩ := J.out.w.free8
          obtain ⟨k0, k1, k2, k3, k4, k5, k6, k7⟩ := eight_lit8 J.out.w
          have JP := hide (J.out.put (z0 := x0) (z1 := x1) (z2 := x2) (z3 := x3) (z4 := x4) (z5 := x5) (z6 := x6) (z7 := x7) rfl)
          have hk0 : (k : Int) = 0 := by omega
          have hkb : ((k : Int) == 0) = true := by rw [hk0]; rfl
          clear hy HE hu0 hu1 hu8 HUN h0 hk0 J
          go_wp2
          go_meet
          exact JP.out
        · obtain rfl := hu1 h0
          have hkb : ((k : Int) == 0) = false := by rw [beq_eq_false_iff_ne]; omega
          clear HE hu0 hu1 hu8 HUN
          go_wp2
          go_meet
          exact J.out
      case rest =>
      have JU := hide hcut
      clear hcut J hu0 hu1 HU8
      obtain ⟨u0, u1, u2, u3, u4, u5, u6, u7, rfl⟩ := len8 hu8
      obtain ⟨z, hz⟩ : ∃ z, joinL (L.take (k + 1)) = z := ⟨_, rfl⟩
      have hz8 : z.length = 8 := by rw [← hz]; exact joinL_len (HA8.out.take _)
      obtain ⟨z0, z1, z2, z3, z4, z5, z6, z7, rfl⟩ := len8 hz8
      have HZ := hide hz
      have hjoin := hide (fun w => refjoin_any u0 u1 u2 u3 u4 u5 u6 u7 x0 x1 x2 x3 x4 x5 x6 x7 w)
      rw [HUN.out, hz] at hjoin
      replace hjoin : Hid (∀ w, Calls Try.prog 17 #[.agg #[.int .i64 u0, .int .i64 u1, .int .i64 u2, .int .i64 u3, .int .i64 u4, .int .i64 u5, .int .i64 u6, .int .i64 u7], .agg #[.int .i64 x0, .int .i64 x1, .int .i64 x2, .int .i64 x3, .int .i64 x4, .int .i64 x5, .int .i64 x6, .int .i64 x7]] w fun e w' => e = .returned (.agg #[.int .i64 z0, .int .i64 z1, .int .i64 z2, .int .i64 z3, .int .i64 z4, .int .i64 z5, .int .i64 z6, .int .i64 z7]) ∧ Below w.heap.size w w') := hjoin
      clear hz hz8 hu8 HUN
      have hk0 : (0 : Int) ≤ (k : Int) := by omega
      go_upto_region 11 with (fail)
      refine wp_region_noPanic ?_
      have JD := hide JU.out.drew
      clear JU
      refine wp_region_T 6 (fun w' => Bw w3 w' [u0, u1, u2, u3, u4, u5, u6, u7]) (by kernel_rfl) ?_
      generalize World.drew wc = wd at JD ⊢
      refine anyT_take (i := 0) (v := ?tv0) (by simp only [List.getElem?_toArray, List.getElem?_cons_zero]; exact rfl) (by kernel_rfl) (by kernel_rfl) (fun _ _ _ h => h) (by kernel_rfl) (by kernel_rfl) (Or.inl ⟨by rfl, ?ty0⟩) JD.out ?tr0
      case ty0 => (intro wh hSw; replace hSw := And.intro (eight_lit8 hSw.w) (HE.out _ _ hSw); go_simp; all_goals (with_reducible rfl))
      try simp only [Act.put, List.setIfInBounds_toArray, List.set_cons_zero, List.set_cons_succ]
      refine anyT_take (i := 1) (v := ?tv1) (by simp only [List.getElem?_toArray, List.getElem?_cons_succ, List.getElem?_cons_zero]; exact rfl) (by kernel_rfl) (by kernel_rfl) (fun _ _ _ h => h) (by kernel_rfl) (by kernel_rfl) (Or.inl ⟨by rfl, ?ty1⟩) JD.out ?tr1
      case ty1 => (intro wh hSw; replace hSw := And.intro (eight_lit8 hSw.w) (HE.out _ _ hSw); go_simp; all_goals (with_reducible rfl))
      try simp only [Act.put, List.setIfInBounds_toArray, List.set_cons_zero, List.set_cons_succ]
      refine anyT_take (i := 2) (v := ?tv2) (by simp only [List.getElem?_toArray, List.getElem?_cons_succ, List.getElem?_cons_zero]; exact rfl) (by kernel_rfl) (by kernel_rfl) (fun _ _ _ h => h) (by kernel_rfl) (by kernel_rfl) (Or.inl ⟨by rfl, ?ty2⟩) JD.out ?tr2
      case ty2 => (intro wh hSw; replace hSw := And.intro (eight_lit8 hSw.w) (HE.out _ _ hSw); go_simp; all_goals (with_reducible rfl))
      try simp only [Act.put, List.setIfInBounds_toArray, List.set_cons_zero, List.set_cons_succ]
      refine anyT_take (i := 3) (v := ?tv3) (by simp only [List.getElem?_toArray, List.getElem?_cons_succ, List.getElem?_cons_zero]; exact rfl) (by kernel_rfl) (by kernel_rfl) (fun _ _ _ h => h) (by kernel_rfl) (by kernel_rfl) (Or.inl ⟨by rfl, ?ty3⟩) JD.out ?tr3
      case ty3 => (intro wh hSw; replace hSw := And.intro (eight_lit8 hSw.w) (HE.out _ _ hSw); go_simp; all_goals (with_reducible rfl))
      try simp only [Act.put, List.setIfInBounds_toArray, List.set_cons_zero, List.set_cons_succ]
      refine anyT_take (i := 4) (v := ?tv4) (by simp only [List.getElem?_toArray, List.getElem?_cons_succ, List.getElem?_cons_zero]; exact rfl) (by kernel_rfl) (by kernel_rfl) (fun _ _ _ h => h) (by kernel_rfl) (by kernel_rfl) (Or.inl ⟨by rfl, ?ty4⟩) JD.out ?tr4
      case ty4 => (intro wh hSw; replace hSw := And.intro (eight_lit8 hSw.w) (HE.out _ _ hSw); go_simp; all_goals (with_reducible rfl))
      try simp only [Act.put, List.setIfInBounds_toArray, List.set_cons_zero, List.set_cons_succ]
      refine anyT_one (i := 5) (by kernel_rfl) (by simp only [List.getElem?_toArray, List.getElem?_cons_succ, List.getElem?_cons_zero]; exact rfl) (fun K hK => ?_)
      go_simp
      refine (hjoin.out _).mono ?_
      rintro e we ⟨rfl, hb⟩
      have JE := hide (JD.out.step hb)
      refine hK.out _ _ (fun _ => JE.out) ?_
      clear hK K hb JD
      try simp only [Act.put, List.setIfInBounds_toArray, List.set_cons_zero, List.set_cons_succ]
      clear wd
      refine anyT_one (i := 6) (by kernel_rfl) (by simp only [List.getElem?_toArray, List.getElem?_cons_succ, List.getElem?_cons_zero]; exact rfl) (fun K hK => ?_)
      obtain ⟨g0, g1, g2, g3, g4, g5, g6, g7⟩ := JE.out.w.free8
      obtain ⟨k0, k1, k2, k3, k4, k5, k6, k7⟩ := eight_lit8 JE.out.w
      go_simp
      have JZ := hide (JE.out.put (z0 := z0) (z1 := z1) (z2 := z2) (z3 := z3) (z4 := z4) (z5 := z5) (z6 := z6) (z7 := z7) rfl)
      refine hK.out _ _ (fun e => absurd rfl e) ?_
      clear hK K JE g0 g1 g2 g3 g4 g5 g6 g7 k0 k1 k2 k3 k4 k5 k6 k7 hjoin
      refine anyT_done (by kernel_rfl) ?_
      refine NoPanic.normal ?_
      generalize World.setCell _ _ _ = wz at JZ ⊢
      have hr1 := hide (fun w => rightA_any x0 x1 x2 x3 x4 x5 x6 x7 w)
      have hr2 := hide (fun w => rightAttr_any x0 x1 x2 x3 x4 x5 x6 x7 w)
      generalize rightA x0 [x1, x2, x3, x4, x5, x6, x7] = rb at hr1 hr2
      go_upto_region 12 with (fail)
      refine wp_region_noPanic ?_
      refine wp_region_held_drew (S := (fun w' => Bw w3 w' [z0, z1, z2, z3, z4, z5, z6, z7])) (by kernel_rfl) JZ.out.drew (fun hx => ?_)
      clear hx
      have KN := hide (And.intro JZ.out.drew (Rows.none_ (w := World.drew wz)))
      generalize World.drew wz = w0 at KN ⊢
      clear JZ
      have K0 := KN
      clear KN
      refine wpAnyH_take (i := 0) (v := ?hgvc0) (by simp only [List.getElem?_toArray, List.getElem?_cons_zero]; exact rfl) (by kernel_rfl) (by kernel_rfl) (by kernel_rfl) (fun _ _ _ h => h) (Or.inl ⟨by rfl, ?hgyc0⟩) K0.out.1 ?hgrc0
      case hgyc0 => (intro wh hSw; replace hSw := HE.out _ _ hSw; go_simp; all_goals (with_reducible rfl))
      try simp only [Act.put, List.setIfInBounds_toArray, List.set_cons_zero, List.set_cons_succ]
      refine wpAnyH_take (i := 1) (v := ?hgvc1) (by simp only [List.getElem?_toArray, List.getElem?_cons_succ, List.getElem?_cons_zero]; exact rfl) (by kernel_rfl) (by kernel_rfl) (by kernel_rfl) (fun _ _ _ h => h) (Or.inl ⟨by rfl, ?hgyc1⟩) K0.out.1 ?hgrc1
      case hgyc1 => (intro wh hSw; replace hSw := HE.out _ _ hSw; go_simp; all_goals (with_reducible rfl))
      try simp only [Act.put, List.setIfInBounds_toArray, List.set_cons_zero, List.set_cons_succ]
      refine wpAnyH_take (i := 2) (v := ?hgvc2) (by simp only [List.getElem?_toArray, List.getElem?_cons_succ, List.getElem?_cons_zero]; exact rfl) (by kernel_rfl) (by kernel_rfl) (by kernel_rfl) (fun _ _ _ h => h) (Or.inl ⟨by rfl, ?hgyc2⟩) K0.out.1 ?hgrc2
      case hgyc2 => (intro wh hSw; replace hSw := HE.out _ _ hSw; go_simp; all_goals (with_reducible rfl))
      try simp only [Act.put, List.setIfInBounds_toArray, List.set_cons_zero, List.set_cons_succ]
      refine wpAnyH_take (i := 3) (v := ?hgvc3) (by simp only [List.getElem?_toArray, List.getElem?_cons_succ, List.getElem?_cons_zero]; exact rfl) (by kernel_rfl) (by kernel_rfl) (by kernel_rfl) (fun _ _ _ h => h) (Or.inl ⟨by rfl, ?hgyc3⟩) K0.out.1 ?hgrc3
      case hgyc3 => (intro wh hSw; replace hSw := HE.out _ _ hSw; go_simp; all_goals (with_reducible rfl))
      try simp only [Act.put, List.setIfInBounds_toArray, List.set_cons_zero, List.set_cons_succ]
      refine wpAnyH_take (i := 5) (v := ?hgvc5) (by simp only [List.getElem?_toArray, List.getElem?_cons_succ, List.getElem?_cons_zero]; exact rfl) (by kernel_rfl) (by kernel_rfl) (by kernel_rfl) (fun _ _ _ h => h) (Or.inl ⟨by rfl, ?hgyc5⟩) K0.out.1 ?hgrc5
      case hgyc5 => (intro wh hSw; replace hSw := HE.out _ _ hSw; go_simp; all_goals (with_reducible rfl))
      try simp only [Act.put, List.setIfInBounds_toArray, List.set_cons_zero, List.set_cons_succ]
      refine wpAnyH_take (i := 6) (v := ?hgvc6) (by simp only [List.getElem?_toArray, List.getElem?_cons_succ, List.getElem?_cons_zero]; exact rfl) (by kernel_rfl) (by kernel_rfl) (by kernel_rfl) (fun _ _ _ h => h) (Or.inl ⟨by rfl, ?hgyc6⟩) K0.out.1 ?hgrc6
      case hgyc6 => (intro wh hSw; replace hSw := HE.out _ _ hSw; go_simp; all_goals (with_reducible rfl))
      try simp only [Act.put, List.setIfInBounds_toArray, List.set_cons_zero, List.set_cons_succ]
      refine wpAnyH_take (i := 7) (v := ?hgvc7) (by simp only [List.getElem?_toArray, List.getElem?_cons_succ, List.getElem?_cons_zero]; exact rfl) (by kernel_rfl) (by kernel_rfl) (by kernel_rfl) (fun _ _ _ h => h) (Or.inl ⟨by rfl, ?hgyc7⟩) K0.out.1 ?hgrc7
      case hgyc7 => (intro wh hSw; replace hSw := HE.out _ _ hSw; go_simp; all_goals (with_reducible rfl))
      try simp only [Act.put, List.setIfInBounds_toArray, List.set_cons_zero, List.set_cons_succ]
      refine wpAnyH_take (i := 8) (v := ?hgvc8) (by simp only [List.getElem?_toArray, List.getElem?_cons_succ, List.getElem?_cons_zero]; exact rfl) (by kernel_rfl) (by kernel_rfl) (by kernel_rfl) (fun _ _ _ h => h) (Or.inl ⟨by rfl, ?hgyc8⟩) K0.out.1 ?hgrc8
      case hgyc8 => (intro wh hSw; replace hSw := HE.out _ _ hSw; go_simp; all_goals (with_reducible rfl))
      try simp only [Act.put, List.setIfInBounds_toArray, List.set_cons_zero, List.set_cons_succ]
      refine wpAnyH_ready (rs := [4]) (by kernel_rfl) (by simp) ?_
      refine AllReadyH.cons (by simp only [List.getElem?_toArray, List.getElem?_cons_succ, List.getElem?_cons_zero]; exact rfl) (fun K hK => ?_) AllReadyH.nil
      go_simp
      refine (hr1.out _).mono ?_
      rintro e w1 ⟨rfl, hb⟩
      have K1 := hide (And.intro (K0.out.1.step hb) (K0.out.2.below hb))
      refine hK.out _ _ K1.out.1 (fun hx => ?_)
      clear hx hK K K0 hb
      try simp only [List.setIfInBounds_toArray, List.set_cons_zero, List.set_cons_succ]
      clear w0
      refine wpAnyH_ready (rs := [9]) (by kernel_rfl) (by simp) ?_
      refine AllReadyH.cons (by simp only [List.getElem?_toArray, List.getElem?_cons_succ, List.getElem?_cons_zero]; exact rfl) (fun K hK => ?_) AllReadyH.nil
      go_simp
      refine (hr2.out _).mono ?_
      rintro e w2 ⟨rfl, hb⟩
      have K2 := hide (And.intro (K1.out.1.step hb) (K1.out.2.below hb))
      refine hK.out _ _ K2.out.1 (fun hx => ?_)
      clear hx hK K K1 hb
      try simp only [List.setIfInBounds_toArray, List.set_cons_zero, List.set_cons_succ]
      clear w1
      refine wpAnyH_take (i := 10) (v := ?hgvc10) (by simp only [List.getElem?_toArray, List.getElem?_cons_succ, List.getElem?_cons_zero]; exact rfl) (by kernel_rfl) (by kernel_rfl) (by kernel_rfl) (fun _ _ _ h => h) (Or.inl ⟨by rfl, ?hgyc10⟩) K2.out.1 ?hgrc10
      case hgyc10 => (intro wh hSw; replace hSw := HE.out _ _ hSw; go_simp; all_goals (with_reducible rfl))
      try simp only [Act.put, List.setIfInBounds_toArray, List.set_cons_zero, List.set_cons_succ]
      refine wpAnyH_done (by kernel_rfl) ?_ _
      refine NoPanic.normal ?_
      have JF := hide K2.out.1
      clear K2 hr1 hr2 HE
      generalize w2 = wa at JF ⊢
      cases rb
      all_goals
        go_wp2
        go_roundw
        case rel => exact ⟨k + 1, by omega, by go_num, by rw [HZ.out]; exact JF⟩
        case measure => simp [intOf]; omega
    · obtain rfl : k = L.length := by omega
      rw [List.take_length] at J
      obtain ⟨t, ht⟩ : ∃ t, joinL L = t := ⟨_, rfl⟩
      have ht8 : t.length = 8 := by rw [← ht]; exact joinL_len HA8.out
      obtain ⟨t0, t1, t2, t3, t4, t5, t6, t7, rfl⟩ := len8 ht8
      rw [ht] at J
      have HJT := hide ht
      obtain ⟨v0, v1, v2, v3, v4, v5, v6, v7, hv⟩ := len8 ((mostTo_len (fun x hx => (H8.out x hx).len) L.length).1.trans rfl : (mostTo L L.length).1.length = 8)
      rw [mostTo_all] at hv
      have HV := hide hv
      clear ht ht8 hv hlt
      have hnl : ¬ (L.length : Int) < (L.length : Int) := by omega
      go_upto_region 15 with (fail)
      go_wp2
      go_loopw [13, 14] (fun p i wr => ∃ k : Nat, k ≤ 7 ∧ i = .int .i64 k ∧ p = .bool (allTo (covAt [d1, d2, d3, d4, d5, d6, d7] [f1, f2, f3, f4, f5, f6, f7]) k) ∧ Hid (Bw w3 wr [t0, t1, t2, t3, t4, t5, t6, t7])) (fun _ i _ => 7 - (intOf i).toNat)
      case atStart => exact ⟨0, by omega, rfl, rfl, J⟩
      case round =>
        clear J hnl
        obtain ⟨k, hk, rfl, rfl, J⟩ := hrel
        by_cases hlt : k < 7
        · have fd := row_cA (KD0.out.step J.out.low).b.d k hlt
          have ff := row_cA (KD0.out.step J.out.low).b.f k hlt
          have HT : Hid (∀ q c, allTo (covAt [d1, d2, d3, d4, d5, d6, d7] [f1, f2, f3, f4, f5, f6, f7]) k = q → decide (ix [f1, f2, f3, f4, f5, f6, f7] k ≤ ix [d1, d2, d3, d4, d5, d6, d7] k) = c → allTo (covAt [d1, d2, d3, d4, d5, d6, d7] [f1, f2, f3, f4, f5, f6, f7]) (k + 1) = (q && c)) := fun q c h1 h2 => by
            unfold allTo at h1 ⊢
            rw [List.range_succ, List.all_append, h1, ← h2]
            simp [covAt]
          have k7 : (k : Int) < 7 := by omega
          have k0 : (0 : Int) ≤ (k : Int) := by omega
          generalize ix [d1, d2, d3, d4, d5, d6, d7] k = dk at fd HT
          generalize ix [f1, f2, f3, f4, f5, f6, f7] k = fk at ff HT
          obtain ⟨q, hq⟩ : ∃ q, allTo (covAt [d1, d2, d3, d4, d5, d6, d7] [f1, f2, f3, f4, f5, f6, f7]) k = q := ⟨_, rfl⟩
          obtain ⟨cc, hcc⟩ : ∃ cc, decide (fk ≤ dk) = cc := ⟨_, rfl⟩
          have HT2 := hide (HT.out q cc hq hcc)
          rw [hq]
          clear hq HT
          cases q
          all_goals
            go_wp2
            go_quiet (fail)
            go_wp2
            go_roundw
            case rel => exact ⟨k + 1, by omega, by go_num, by rw [HT2.out]; simp, J.out.step (kept_drewN (kept_refl _) _)⟩
            case measure => simp [intOf]; omega
        · obtain rfl : k = 7 := by omega
          have k7 : ¬ (((7 : Nat) : Int) < 7) := by omega
          obtain ⟨C, hC⟩ : ∃ C, coversB [d1, d2, d3, d4, d5, d6, d7] [f1, f2, f3, f4, f5, f6, f7] = C := ⟨_, rfl⟩
          have hC' : allTo (covAt [d1, d2, d3, d4, d5, d6, d7] [f1, f2, f3, f4, f5, f6, f7]) 7 = C := hC
          rw [hC']
          have HCC := hide hC
          clear hC hC' hlt hk
          have hm1 := hide (fun w (h : Bw w3 w [t0, t1, t2, t3, t4, t5, t6, t7]) => most_any (some ⟨S, 0, none⟩) L.length (L.length + 80) L w rfl H8.out (KD0.out.step h.low).own (by omega) (by omega))
          have hm2 := hide (fun w (h : Bw w3 w [t0, t1, t2, t3, t4, t5, t6, t7]) => refmost_any A L.length c L w rfl HA8.out (KD0.out.step h.low).l (by omega))
          rw [HV.out] at hm1 hm2
          replace hm1 : Hid (∀ w, Bw w3 w [t0, t1, t2, t3, t4, t5, t6, t7] → Calls Try.prog 11 #[.slice (some ⟨S, 0, none⟩) L.length (L.length + 80)] w fun e w' => e = .returned (.tuple #[.agg #[.int .i64 v0, .int .i64 v1, .int .i64 v2, .int .i64 v3, .int .i64 v4, .int .i64 v5, .int .i64 v6, .int .i64 v7], .int .i64 ((mostA L).2 : Int)]) ∧ Below w.heap.size w w') := hm1
          replace hm2 : Hid (∀ w, Bw w3 w [t0, t1, t2, t3, t4, t5, t6, t7] → Calls Try.prog 20 #[.slice A L.length c] w fun e w' => e = .returned (.tuple #[.agg #[.int .i64 v0, .int .i64 v1, .int .i64 v2, .int .i64 v3, .int .i64 v4, .int .i64 v5, .int .i64 v6, .int .i64 v7], .int .i64 ((mostA L).2 : Int)]) ∧ Below w.heap.size w w') := hm2
          generalize (mostA L).2 = N at hm1 hm2
          go_upto_region 20 with (go_at_call 11; refine (hm1.out _ J.out).mono ?_; rintro e wp ⟨rfl, hb⟩; replace J := hide (J.out.step hb); clear hb hm1)
          have KP := hide (And.intro (J.out.step (kept_alloc (kept_refl wp) (.cells #[.int .i64 v0, .int .i64 v1, .int .i64 v2, .int .i64 v3, .int .i64 v4, .int .i64 v5, .int .i64 v6, .int .i64 v7] 25))) (Row.new wp 25 #[.int .i64 v0, .int .i64 v1, .int .i64 v2, .int .i64 v3, .int .i64 v4, .int .i64 v5, .int .i64 v6, .int .i64 v7]))
          clear J
          generalize wp.heap.size = p15 at KP ⊢
          generalize World.alloc wp _ = wq at KP ⊢
          go_upto_region 21 with (go_at_call 20; refine (hm2.out _ KP.out.1).mono ?_; rintro e wp ⟨rfl, hb⟩; replace KP := hide (And.intro (KP.out.1.step hb) (KP.out.2.below hb KP.out.2.lt)); clear hb hm2)
          have KZ := hide (show Bz w3 (wp.alloc (.cells #[.int .i64 v0, .int .i64 v1, .int .i64 v2, .int .i64 v3, .int .i64 v4, .int .i64 v5, .int .i64 v6, .int .i64 v7] 25)) [t0, t1, t2, t3, t4, t5, t6, t7] [v0, v1, v2, v3, v4, v5, v6, v7] p15 wp.heap.size from ⟨KP.out.1.step (kept_alloc (kept_refl wp) _), KP.out.2.alloc _, Row.new _ _ _⟩)
          clear KP
          generalize wp.heap.size = p17 at KZ ⊢
          generalize World.alloc wp _ = wz at KZ ⊢
          have HD := hide (fun w' (h : Bz w3 w' [t0, t1, t2, t3, t4, t5, t6, t7] [v0, v1, v2, v3, v4, v5, v6, v7] p15 p17) => KD0.out.step h.b.low)
          have HC := hide (fun w' (h : Bz w3 w' [t0, t1, t2, t3, t4, t5, t6, t7] [v0, v1, v2, v3, v4, v5, v6, v7] p15 p17) => And.intro (seven_cA (HD.out w' h).b.d) (And.intro (seven_cA (HD.out w' h).b.f) (HD.out w' h).b.i.two))
          clear KD0
          obtain ⟨R, hR⟩ : ∃ R, reachB [d1, d2, d3, d4, d5, d6, d7] x y = R := ⟨_, rfl⟩
          have hrea := hide (fun w => reach_any d1 d2 d3 d4 d5 d6 d7 x y w)
          rw [hR] at hrea
          have hcov := hide (fun w => covers_any d1 d2 d3 d4 d5 d6 d7 f1 f2 f3 f4 f5 f6 f7 w)
          rw [HCC.out] at hcov
          have HF : Hid (¬ (0 ≤ x ∧ x < 7 ∧ 1 ≤ y ∧ y ≤ 1073741824) → R = false) := fun hn => by
            rw [← hR]
            have : rightI x y = false := by
              rw [Bool.eq_false_iff]
              intro h
              have := rightI_says h
              omega
            unfold reachB
            rw [this, Bool.false_and]
          have HG : Hid (0 ≤ x → x < 7 → 1 ≤ y → y ≤ 1073741824 → R = decide (y ≤ ix [d1, d2, d3, d4, d5, d6, d7] x.toNat)) := fun h0 h7 h1 h2 => by
            rw [← hR]
            have : rightI x y = true := by
              unfold rightI repB
              simp
              omega
            unfold reachB
            rw [this, Bool.true_and]
          clear hR HCC HV
          go_upto_region 21 with (fail)
          go_cut [19] (fun s19 wx => s19 = .bool R ∧ Bz w3 wx [t0, t1, t2, t3, t4, t5, t6, t7] [v0, v1, v2, v3, v4, v5, v6, v7] p15 p17)
          case first =>
            obtain ⟨_, _, i0, i1⟩ := HC.out _ KZ.out
            by_cases h0 : 0 ≤ x
            · have q0 : decide (0 ≤ x) = true := decide_eq_true h0
              by_cases h7 : x < 7
              · have q7 : decide (x < 7) = true := decide_eq_true h7
                by_cases h1 : 1 ≤ y
                · have q1 : decide (1 ≤ y) = true := decide_eq_true h1
                  by_cases h2 : y ≤ 1073741824
                  · have q2 : decide (y ≤ 1073741824) = true := decide_eq_true h2
                    have hG := HG.out h0 h7 h1 h2
                    obtain ⟨r, rfl⟩ := Int.eq_ofNat_of_zero_le h0
                    have hr7 : r < 7 := by omega
                    have fd := row_cA (HD.out _ KZ.out).b.d r hr7
                    have ha : bits .and .i64 (r : Int) 7 = (r : Int) := by
                      rcases (by omega : r = 0 ∨ r = 1 ∨ r = 2 ∨ r = 3 ∨ r = 4 ∨ r = 5 ∨ r = 6) with rfl | rfl | rfl | rfl | rfl | rfl | rfl <;> kernel_rfl
                    have hrem : (r : Int).tmod 7 = (r : Int) := Int.tmod_eq_of_lt (by omega) (by omega)
                    have hto : ((r : Int)).toNat = r := by omega
                    rw [hto] at hG
                    generalize ix [d1, d2, d3, d4, d5, d6, d7] r = dr at fd hG
                    have HGG := hide hG
                    clear hG HF HG h0 h1 h2
                    go_wp2
                    go_quiet (fail)
                    go_wp2
                    go_meet
                    exact ⟨by rw [HGG.out], KZ.out.step (kept_drewN (kept_refl _) _)⟩
                  · have q2 : decide (y ≤ 1073741824) = false := decide_eq_false h2
                    have HFF := hide (HF.out (by omega))
                    clear HF HG h2
                    go_wp2
                    go_quiet (fail)
                    go_wp2
                    go_meet
                    exact ⟨by rw [HFF.out], KZ.out.step (kept_drewN (kept_refl _) _)⟩
                · have q1 : decide (1 ≤ y) = false := decide_eq_false h1
                  have HFF := hide (HF.out (by omega))
                  clear HF HG h1
                  go_wp2
                  go_quiet (fail)
                  go_wp2
                  go_meet
                  exact ⟨by rw [HFF.out], KZ.out.step (kept_drewN (kept_refl _) _)⟩
              · have q7 : decide (x < 7) = false := decide_eq_false h7
                have HFF := hide (HF.out (by omega))
                clear HF HG h7
                go_wp2
                go_quiet (fail)
                go_wp2
                go_meet
                exact ⟨by rw [HFF.out], KZ.out.step (kept_drewN (kept_refl _) _)⟩
            · have q0 : decide (0 ≤ x) = false := decide_eq_false h0
              have HFF := hide (HF.out (by omega))
              clear HF HG h0
              go_wp2
              go_quiet (fail)
              go_wp2
              go_meet
              exact ⟨by rw [HFF.out], KZ.out.step (kept_drewN (kept_refl _) _)⟩
          case rest =>
          obtain ⟨rfl, hZ⟩ := hcut
          have KR := hide hZ
          clear hZ HF HG
          have hdi : ∀ n, n ∈ [d1, d2, d3, d4, d5, d6, d7] → n ≤ 9223372036854775807 := fun n hn => (HID.out n hn).2
          have hli1 := hide (fun w => list_any d1 d2 d3 d4 d5 d6 d7 f1 f2 f3 f4 f5 f6 f7 w hdi)
          have hli2 := hide (fun w => reflist_any d1 d2 d3 d4 d5 d6 d7 f1 f2 f3 f4 f5 f6 f7 w hdi)
          have hll := listTo_len [d1, d2, d3, d4, d5, d6, d7] [f1, f2, f3, f4, f5, f6, f7] 7
          have hla := listTo_all [d1, d2, d3, d4, d5, d6, d7] [f1, f2, f3, f4, f5, f6, f7] 7
          replace hll : (listD [d1, d2, d3, d4, d5, d6, d7] [f1, f2, f3, f4, f5, f6, f7]).length ≤ 1000 := hll
          replace hla : All 2 (listD [d1, d2, d3, d4, d5, d6, d7] [f1, f2, f3, f4, f5, f6, f7]) := hla
          generalize listD [d1, d2, d3, d4, d5, d6, d7] [f1, f2, f3, f4, f5, f6, f7] = LD at hli1 hli2 hll hla
          have hsame : Hid (∀ (w : World) (A B : Option Addr) (c d : Nat), Its 2 w A LD → Its 2 w B LD → Calls Try.prog 15 #[.slice A LD.length c, .slice B LD.length d] w fun e w' => e = .returned (.bool true) ∧ Below w.heap.size w w') := fun w A B c d ha hb =>
            (same_inst A B LD.length LD.length c d LD LD w rfl rfl hla hla ha hb (by omega) (by omega)).mono fun e w' ⟨h1, q, h2⟩ => ⟨by rw [h1, decide_eq_true rfl], by rw [h2]; exact kept_drewN (kept_refl w) q⟩
          have hat := hide (fun w => at0_any 9 w)
          have hint : Hid (∀ (w : World), Bd W w [d1, d2, d3, d4, d5, d6, d7] [f1, f2, f3, f4, f5, f6, f7] x y A S L → Calls Try.prog 23 #[.slice (some ⟨S, 0, none⟩) (L.length + 80) (L.length + 80), .slice A L.length c, .agg #[.int .i64 9, .int .i64 0, .int .i64 0, .int .i64 0, .int .i64 0, .int .i64 0, .int .i64 0, .int .i64 0]] w fun e w' => e = .returned (.bool true) ∧ Below w.heap.size w w') := fun w h =>
            intact8_any (some ⟨S, 0, none⟩) A (L.length + 80) L.length (L.length + 80) c L 9 0 0 0 0 0 0 0 w rfl rfl HA8.out h.r h.l (Nat.le_refl _) (by omega) (by omega)
          have hj : Hid (∀ (w : World), Its 8 w (some ⟨S, 0, none⟩) L → Calls Try.prog 13 #[.slice (some ⟨S, 0, none⟩) L.length (L.length + 80)] w fun e w' => e = .returned (.agg #[.int .i64 t0, .int .i64 t1, .int .i64 t2, .int .i64 t3, .int .i64 t4, .int .i64 t5, .int .i64 t6, .int .i64 t7]) ∧ Below w.heap.size w w') := fun w h =>
            (join_any (some ⟨S, 0, none⟩) L.length (L.length + 80) L w rfl HA8.out h (by omega) (by omega)).mono fun e w' ⟨h1, h2⟩ => ⟨by rw [h1, HJT.out]; rfl, h2⟩
          have heqt : ∀ w, (binOp .eql 25 (.agg #[.int .i64 t0, .int .i64 t1, .int .i64 t2, .int .i64 t3, .int .i64 t4, .int .i64 t5, .int .i64 t6, .int .i64 t7]) (.agg #[.int .i64 t0, .int .i64 t1, .int .i64 t2, .int .i64 t3, .int .i64 t4, .int .i64 t5, .int .i64 t6, .int .i64 t7])).run Try.prog w = .ok (.bool true) w := fun w => by
            rw [eql_attr]; simp
          have heqv : ∀ w, (binOp .eql 25 (.agg #[.int .i64 v0, .int .i64 v1, .int .i64 v2, .int .i64 v3, .int .i64 v4, .int .i64 v5, .int .i64 v6, .int .i64 v7]) (.agg #[.int .i64 v0, .int .i64 v1, .int .i64 v2, .int .i64 v3, .int .i64 v4, .int .i64 v5, .int .i64 v6, .int .i64 v7])).run Try.prog w = .ok (.bool true) w := fun w => by
            rw [eql_attr]; simp
          clear hdi hla hll HJT
          go_upto_region 22 with (fail)
          refine wp_region_noPanic ?_
          refine wp_region_held_drew (S := (fun w' => Bz w3 w' [t0, t1, t2, t3, t4, t5, t6, t7] [v0, v1, v2, v3, v4, v5, v6, v7] p15 p17)) (by kernel_rfl) KR.out.drew (fun hx => ?_)
          clear hx
          have KN := hide (And.intro KR.out.drew (Rows.none_ (w := World.drew wc)))
          generalize World.drew wc = w0 at KN ⊢
          clear KR
          have K0 := KN
          clear KN
          refine wpAnyH_take (i := 0) (v := ?hgvd0) (by simp only [List.getElem?_toArray, List.getElem?_cons_zero]; exact rfl) (by kernel_rfl) (by kernel_rfl) (by kernel_rfl) (fun _ _ _ h => h) (Or.inl ⟨by rfl, ?hgyd0⟩) K0.out.1 ?hgrd0
          case hgyd0 => (intro wh hSw; replace hSw := And.intro (eight_lit8 hSw.b.w) (And.intro (eight_lit8 hSw.p) (And.intro (eight_lit8 hSw.q) (HC.out _ hSw))); go_simp; all_goals (with_reducible rfl))
          try simp only [Act.put, List.setIfInBounds_toArray, List.set_cons_zero, List.set_cons_succ]
          refine wpAnyH_take (i := 2) (v := ?hgvd2) (by simp only [List.getElem?_toArray, List.getElem?_cons_succ, List.getElem?_cons_zero]; exact rfl) (by kernel_rfl) (by kernel_rfl) (by kernel_rfl) (fun _ _ _ h => h) (Or.inl ⟨by rfl, ?hgyd2⟩) K0.out.1 ?hgrd2
          case hgyd2 => (intro wh hSw; replace hSw := And.intro (eight_lit8 hSw.b.w) (And.intro (eight_lit8 hSw.p) (And.intro (eight_lit8 hSw.q) (HC.out _ hSw))); go_simp; all_goals (with_reducible rfl))
          try simp only [Act.put, List.setIfInBounds_toArray, List.set_cons_zero, List.set_cons_succ]
          refine wpAnyH_ready (rs := [1]) (by kernel_rfl) (by simp) ?_
          refine AllReadyH.cons (by simp only [List.getElem?_toArray, List.getElem?_cons_succ, List.getElem?_cons_zero]; exact rfl) (fun K hK => ?_) AllReadyH.nil
          go_simp
          refine (hj.out _ (HD.out _ K0.out.1).own).mono ?_
          rintro e w1 ⟨rfl, hb⟩
          have K1 := hide (And.intro (K0.out.1.step hb) (K0.out.2.below hb))
          refine hK.out _ _ K1.out.1 (fun hx => ?_)
          clear hx hK K K0 hb
          try simp only [List.setIfInBounds_toArray, List.set_cons_zero, List.set_cons_succ]
          clear w0
          refine wpAnyH_take (i := 3) (v := ?hgvd3) (by simp only [List.getElem?_toArray, List.getElem?_cons_succ, List.getElem?_cons_zero]; exact rfl) (by kernel_rfl) (by kernel_rfl) (by kernel_rfl) (fun _ _ _ h => h) (Or.inl ⟨by rfl, ?hgyd3⟩) K1.out.1 ?hgrd3
          case hgyd3 => (intro wh hSw; replace hSw := And.intro (eight_lit8 hSw.b.w) (And.intro (eight_lit8 hSw.p) (And.intro (eight_lit8 hSw.q) (HC.out _ hSw))); go_simp; all_goals (with_reducible rfl))
          try simp only [Act.put, List.setIfInBounds_toArray, List.set_cons_zero, List.set_cons_succ]
          refine wpAnyH_take (i := 4) (v := ?hgvd4) (by simp only [List.getElem?_toArray, List.getElem?_cons_succ, List.getElem?_cons_zero]; exact rfl) (by kernel_rfl) (by kernel_rfl) (by kernel_rfl) (fun _ _ _ h => h) (Or.inl ⟨by rfl, ?hgyd4⟩) K1.out.1 ?hgrd4
          case hgyd4 => (intro wh hSw; replace hSw := And.intro (eight_lit8 hSw.b.w) (And.intro (eight_lit8 hSw.p) (And.intro (eight_lit8 hSw.q) (HC.out _ hSw))); go_simp; all_goals (with_reducible rfl))
          try simp only [Act.put, List.setIfInBounds_toArray, List.set_cons_zero, List.set_cons_succ]
          refine wpAnyH_take (i := 5) (v := ?hgvd5) (by simp only [List.getElem?_toArray, List.getElem?_cons_succ, List.getElem?_cons_zero]; exact rfl) (by kernel_rfl) (by kernel_rfl) (by kernel_rfl) (fun _ _ _ h => h) (Or.inl ⟨by rfl, ?hgyd5⟩) K1.out.1 ?hgrd5
          case hgyd5 => (intro wh hSw; replace hSw := And.intro (eight_lit8 hSw.b.w) (And.intro (eight_lit8 hSw.p) (And.intro (eight_lit8 hSw.q) (HC.out _ hSw))); go_simp; all_goals (with_reducible rfl))
          try simp only [Act.put, List.setIfInBounds_toArray, List.set_cons_zero, List.set_cons_succ]
          refine wpAnyH_take (i := 6) (v := ?hgvd6) (by simp only [List.getElem?_toArray, List.getElem?_cons_succ, List.getElem?_cons_zero]; exact rfl) (by kernel_rfl) (by kernel_rfl) (by kernel_rfl) (fun _ _ _ h => h) (Or.inl ⟨by rfl, ?hgyd6⟩) K1.out.1 ?hgrd6
          case hgyd6 => (intro wh hSw; replace hSw := And.intro (eight_lit8 hSw.b.w) (And.intro (eight_lit8 hSw.p) (And.intro (eight_lit8 hSw.q) (HC.out _ hSw))); go_simp; all_goals (with_reducible rfl))
          try simp only [Act.put, List.setIfInBounds_toArray, List.set_cons_zero, List.set_cons_succ]
          refine wpAnyH_take (i := 7) (v := ?hgvd7) (by simp only [List.getElem?_toArray, List.getElem?_cons_succ, List.getElem?_cons_zero]; exact rfl) (by kernel_rfl) (by kernel_rfl) (by kernel_rfl) (fun _ _ _ h => h) (Or.inl ⟨by rfl, ?hgyd7⟩) K1.out.1 ?hgrd7
          case hgyd7 => (intro wh hSw; replace hSw := And.intro (eight_lit8 hSw.b.w) (And.intro (eight_lit8 hSw.p) (And.intro (eight_lit8 hSw.q) (HC.out _ hSw))); go_simp; all_goals (with_reducible rfl))
          try simp only [Act.put, List.setIfInBounds_toArray, List.set_cons_zero, List.set_cons_succ]
          refine wpAnyH_take (i := 8) (v := ?hgvd8) (by simp only [List.getElem?_toArray, List.getElem?_cons_succ, List.getElem?_cons_zero]; exact rfl) (by kernel_rfl) (by kernel_rfl) (by kernel_rfl) (fun _ _ _ h => h) (Or.inl ⟨by rfl, ?hgyd8⟩) K1.out.1 ?hgrd8
          case hgyd8 => (intro wh hSw; replace hSw := And.intro (eight_lit8 hSw.b.w) (And.intro (eight_lit8 hSw.p) (And.intro (eight_lit8 hSw.q) (HC.out _ hSw))); go_simp; all_goals (with_reducible rfl))
          try simp only [Act.put, List.setIfInBounds_toArray, List.set_cons_zero, List.set_cons_succ]
          refine wpAnyH_take (i := 9) (v := ?hgvd9) (by simp only [List.getElem?_toArray, List.getElem?_cons_succ, List.getElem?_cons_zero]; exact rfl) (by kernel_rfl) (by kernel_rfl) (by kernel_rfl) (fun _ _ _ h => h) (Or.inl ⟨by rfl, ?hgyd9⟩) K1.out.1 ?hgrd9
          case hgyd9 => (intro wh hSw; replace hSw := And.intro (eight_lit8 hSw.b.w) (And.intro (eight_lit8 hSw.p) (And.intro (eight_lit8 hSw.q) (HC.out _ hSw))); go_simp; all_goals (with_reducible rfl))
          try simp only [Act.put, List.setIfInBounds_toArray, List.set_cons_zero, List.set_cons_succ]
          refine wpAnyH_take (i := 10) (v := ?hgvd10) (by simp only [List.getElem?_toArray, List.getElem?_cons_succ, List.getElem?_cons_zero]; exact rfl) (by kernel_rfl) (by kernel_rfl) (by kernel_rfl) (fun _ _ _ h => h) (Or.inl ⟨by rfl, ?hgyd10⟩) K1.out.1 ?hgrd10
          case hgyd10 => (intro wh hSw; replace hSw := And.intro (eight_lit8 hSw.b.w) (And.intro (eight_lit8 hSw.p) (And.intro (eight_lit8 hSw.q) (HC.out _ hSw))); go_simp; all_goals (with_reducible rfl))
          try simp only [Act.put, List.setIfInBounds_toArray, List.set_cons_zero, List.set_cons_succ]
          refine wpAnyH_take (i := 11) (v := ?hgvd11) (by simp only [List.getElem?_toArray, List.getElem?_cons_succ, List.getElem?_cons_zero]; exact rfl) (by kernel_rfl) (by kernel_rfl) (by kernel_rfl) (fun _ _ _ h => h) (Or.inl ⟨by rfl, ?hgyd11⟩) K1.out.1 ?hgrd11
          case hgyd11 => (intro wh hSw; replace hSw := And.intro (eight_lit8 hSw.b.w) (And.intro (eight_lit8 hSw.p) (And.intro (eight_lit8 hSw.q) (HC.out _ hSw))); go_simp; all_goals (with_reducible rfl))
          try simp only [Act.put, List.setIfInBounds_toArray, List.set_cons_zero, List.set_cons_succ]
          refine wpAnyH_take (i := 12) (v := ?hgvd12) (by simp only [List.getElem?_toArray, List.getElem?_cons_succ, List.getElem?_cons_zero]; exact rfl) (by kernel_rfl) (by kernel_rfl) (by kernel_rfl) (fun _ _ _ h => h) (Or.inl ⟨by rfl, ?hgyd12⟩) K1.out.1 ?hgrd12
          case hgyd12 => (intro wh hSw; replace hSw := And.intro (eight_lit8 hSw.b.w) (And.intro (eight_lit8 hSw.p) (And.intro (eight_lit8 hSw.q) (HC.out _ hSw))); go_simp; all_goals (with_reducible rfl))
          try simp only [Act.put, List.setIfInBounds_toArray, List.set_cons_zero, List.set_cons_succ]
          refine wpAnyH_take (i := 13) (v := ?hgvd13) (by simp only [List.getElem?_toArray, List.getElem?_cons_succ, List.getElem?_cons_zero]; exact rfl) (by kernel_rfl) (by kernel_rfl) (by kernel_rfl) (fun _ _ _ h => h) (Or.inl ⟨by rfl, ?hgyd13⟩) K1.out.1 ?hgrd13
          case hgyd13 => (intro wh hSw; replace hSw := And.intro (eight_lit8 hSw.b.w) (And.intro (eight_lit8 hSw.p) (And.intro (eight_lit8 hSw.q) (HC.out _ hSw))); go_simp; all_goals (with_reducible rfl))
          try simp only [Act.put, List.setIfInBounds_toArray, List.set_cons_zero, List.set_cons_succ]
          refine wpAnyH_take (i := 14) (v := ?hgvd14) (by simp only [List.getElem?_toArray, List.getElem?_cons_succ, List.getElem?_cons_zero]; exact rfl) (by kernel_rfl) (by kernel_rfl) (by kernel_rfl) (fun _ _ _ h => h) (Or.inl ⟨by rfl, ?hgyd14⟩) K1.out.1 ?hgrd14
          case hgyd14 => (intro wh hSw; replace hSw := And.intro (eight_lit8 hSw.b.w) (And.intro (eight_lit8 hSw.p) (And.intro (eight_lit8 hSw.q) (HC.out _ hSw))); go_simp; all_goals (with_reducible rfl))
          try simp only [Act.put, List.setIfInBounds_toArray, List.set_cons_zero, List.set_cons_succ]
          refine wpAnyH_take (i := 15) (v := ?hgvd15) (by simp only [List.getElem?_toArray, List.getElem?_cons_succ, List.getElem?_cons_zero]; exact rfl) (by kernel_rfl) (by kernel_rfl) (by kernel_rfl) (fun _ _ _ h => h) (Or.inl ⟨by rfl, ?hgyd15⟩) K1.out.1 ?hgrd15
          case hgyd15 => (intro wh hSw; replace hSw := And.intro (eight_lit8 hSw.b.w) (And.intro (eight_lit8 hSw.p) (And.intro (eight_lit8 hSw.q) (HC.out _ hSw))); go_simp; all_goals (with_reducible rfl))
          try simp only [Act.put, List.setIfInBounds_toArray, List.set_cons_zero, List.set_cons_succ]
          refine wpAnyH_take (i := 16) (v := ?hgvd16) (by simp only [List.getElem?_toArray, List.getElem?_cons_succ, List.getElem?_cons_zero]; exact rfl) (by kernel_rfl) (by kernel_rfl) (by kernel_rfl) (fun _ _ _ h => h) (Or.inl ⟨by rfl, ?hgyd16⟩) K1.out.1 ?hgrd16
          case hgyd16 => (intro wh hSw; replace hSw := And.intro (eight_lit8 hSw.b.w) (And.intro (eight_lit8 hSw.p) (And.intro (eight_lit8 hSw.q) (HC.out _ hSw))); go_simp; all_goals (with_reducible rfl))
          try simp only [Act.put, List.setIfInBounds_toArray, List.set_cons_zero, List.set_cons_succ]
          refine wpAnyH_take (i := 18) (v := ?hgvd18) (by simp only [List.getElem?_toArray, List.getElem?_cons_succ, List.getElem?_cons_zero]; exact rfl) (by kernel_rfl) (by kernel_rfl) (by kernel_rfl) (fun _ _ _ h => h) (Or.inl ⟨by rfl, ?hgyd18⟩) K1.out.1 ?hgrd18
          case hgyd18 => (intro wh hSw; replace hSw := And.intro (eight_lit8 hSw.b.w) (And.intro (eight_lit8 hSw.p) (And.intro (eight_lit8 hSw.q) (HC.out _ hSw))); go_simp; all_goals (with_reducible rfl))
          try simp only [Act.put, List.setIfInBounds_toArray, List.set_cons_zero, List.set_cons_succ]
          refine wpAnyH_ready (rs := [17]) (by kernel_rfl) (by simp) ?_
          refine AllReadyH.cons (by simp only [List.getElem?_toArray, List.getElem?_cons_succ, List.getElem?_cons_zero]; exact rfl) (fun K hK => ?_) AllReadyH.nil
          go_simp
          refine (hcov.out _).mono ?_
          rintro e w2 ⟨rfl, hb⟩
          have K2 := hide (And.intro (K1.out.1.step hb) (K1.out.2.below hb))
          refine hK.out _ _ K2.out.1 (fun hx => ?_)
          clear hx hK K K1 hb
          try simp only [List.setIfInBounds_toArray, List.set_cons_zero, List.set_cons_succ]
          clear w1
          refine wpAnyH_take (i := 19) (v := ?hgvd19) (by simp only [List.getElem?_toArray, List.getElem?_cons_succ, List.getElem?_cons_zero]; exact rfl) (by kernel_rfl) (by kernel_rfl) (by kernel_rfl) (fun _ _ _ h => h) (Or.inl ⟨by rfl, ?hgyd19⟩) K2.out.1 ?hgrd19
          case hgyd19 => (intro wh hSw; replace hSw := And.intro (eight_lit8 hSw.b.w) (And.intro (eight_lit8 hSw.p) (And.intro (eight_lit8 hSw.q) (HC.out _ hSw))); go_simp; all_goals (with_reducible rfl))
          try simp only [Act.put, List.setIfInBounds_toArray, List.set_cons_zero, List.set_cons_succ]
          refine wpAnyH_take (i := 20) (v := ?hgvd20) (by simp only [List.getElem?_toArray, List.getElem?_cons_succ, List.getElem?_cons_zero]; exact rfl) (by kernel_rfl) (by kernel_rfl) (by kernel_rfl) (fun _ _ _ h => h) (Or.inl ⟨by rfl, ?hgyd20⟩) K2.out.1 ?hgrd20
          case hgyd20 => (intro wh hSw; replace hSw := And.intro (eight_lit8 hSw.b.w) (And.intro (eight_lit8 hSw.p) (And.intro (eight_lit8 hSw.q) (HC.out _ hSw))); go_simp; all_goals (with_reducible rfl))
          try simp only [Act.put, List.setIfInBounds_toArray, List.set_cons_zero, List.set_cons_succ]
          refine wpAnyH_take (i := 21) (v := ?hgvd21) (by simp only [List.getElem?_toArray, List.getElem?_cons_succ, List.getElem?_cons_zero]; exact rfl) (by kernel_rfl) (by kernel_rfl) (by kernel_rfl) (fun _ _ _ h => h) (Or.inl ⟨by rfl, ?hgyd21⟩) K2.out.1 ?hgrd21
          case hgyd21 => (intro wh hSw; replace hSw := And.intro (eight_lit8 hSw.b.w) (And.intro (eight_lit8 hSw.p) (And.intro (eight_lit8 hSw.q) (HC.out _ hSw))); go_simp; all_goals (with_reducible rfl))
          try simp only [Act.put, List.setIfInBounds_toArray, List.set_cons_zero, List.set_cons_succ]
          refine wpAnyH_take (i := 22) (v := ?hgvd22) (by simp only [List.getElem?_toArray, List.getElem?_cons_succ, List.getElem?_cons_zero]; exact rfl) (by kernel_rfl) (by kernel_rfl) (by kernel_rfl) (fun _ _ _ h => h) (Or.inl ⟨by rfl, ?hgyd22⟩) K2.out.1 ?hgrd22
          case hgyd22 => (intro wh hSw; replace hSw := And.intro (eight_lit8 hSw.b.w) (And.intro (eight_lit8 hSw.p) (And.intro (eight_lit8 hSw.q) (HC.out _ hSw))); go_simp; all_goals (with_reducible rfl))
          try simp only [Act.put, List.setIfInBounds_toArray, List.set_cons_zero, List.set_cons_succ]
          refine wpAnyH_take (i := 23) (v := ?hgvd23) (by simp only [List.getElem?_toArray, List.getElem?_cons_succ, List.getElem?_cons_zero]; exact rfl) (by kernel_rfl) (by kernel_rfl) (by kernel_rfl) (fun _ _ _ h => h) (Or.inl ⟨by rfl, ?hgyd23⟩) K2.out.1 ?hgrd23
          case hgyd23 => (intro wh hSw; replace hSw := And.intro (eight_lit8 hSw.b.w) (And.intro (eight_lit8 hSw.p) (And.intro (eight_lit8 hSw.q) (HC.out _ hSw))); go_simp; all_goals (with_reducible rfl))
          try simp only [Act.put, List.setIfInBounds_toArray, List.set_cons_zero, List.set_cons_succ]
          refine wpAnyH_take (i := 25) (v := ?hgvd25) (by simp only [List.getElem?_toArray, List.getElem?_cons_succ, List.getElem?_cons_zero]; exact rfl) (by kernel_rfl) (by kernel_rfl) (by kernel_rfl) (fun _ _ _ h => h) (Or.inl ⟨by rfl, ?hgyd25⟩) K2.out.1 ?hgrd25
          case hgyd25 => (intro wh hSw; replace hSw := And.intro (eight_lit8 hSw.b.w) (And.intro (eight_lit8 hSw.p) (And.intro (eight_lit8 hSw.q) (HC.out _ hSw))); go_simp; all_goals (with_reducible rfl))
          try simp only [Act.put, List.setIfInBounds_toArray, List.set_cons_zero, List.set_cons_succ]
          refine wpAnyH_ready (rs := [24]) (by kernel_rfl) (by simp) ?_
          refine AllReadyH.cons (by simp only [List.getElem?_toArray, List.getElem?_cons_succ, List.getElem?_cons_zero]; exact rfl) (fun K hK => ?_) AllReadyH.nil
          go_simp
          refine (hrea.out _).mono ?_
          rintro e w3 ⟨rfl, hb⟩
          have K3 := hide (And.intro (K2.out.1.step hb) (K2.out.2.below hb))
          refine hK.out _ _ K3.out.1 (fun hx => ?_)
          clear hx hK K K2 hb
          try simp only [List.setIfInBounds_toArray, List.set_cons_zero, List.set_cons_succ]
          clear w2
          refine wpAnyH_take (i := 26) (v := ?hgvd26) (by simp only [List.getElem?_toArray, List.getElem?_cons_succ, List.getElem?_cons_zero]; exact rfl) (by kernel_rfl) (by kernel_rfl) (by kernel_rfl) (fun _ _ _ h => h) (Or.inl ⟨by rfl, ?hgyd26⟩) K3.out.1 ?hgrd26
          case hgyd26 => (intro wh hSw; replace hSw := And.intro (eight_lit8 hSw.b.w) (And.intro (eight_lit8 hSw.p) (And.intro (eight_lit8 hSw.q) (HC.out _ hSw))); go_simp; all_goals (with_reducible rfl))
          try simp only [Act.put, List.setIfInBounds_toArray, List.set_cons_zero, List.set_cons_succ]
          refine wpAnyH_take (i := 27) (v := ?hgvd27) (by simp only [List.getElem?_toArray, List.getElem?_cons_succ, List.getElem?_cons_zero]; exact rfl) (by kernel_rfl) (by kernel_rfl) (by kernel_rfl) (fun _ _ _ h => h) (Or.inl ⟨by rfl, ?hgyd27⟩) K3.out.1 ?hgrd27
          case hgyd27 => (intro wh hSw; replace hSw := And.intro (eight_lit8 hSw.b.w) (And.intro (eight_lit8 hSw.p) (And.intro (eight_lit8 hSw.q) (HC.out _ hSw))); go_simp; all_goals (with_reducible rfl))
          try simp only [Act.put, List.setIfInBounds_toArray, List.set_cons_zero, List.set_cons_succ]
          refine wpAnyH_take (i := 28) (v := ?hgvd28) (by simp only [List.getElem?_toArray, List.getElem?_cons_succ, List.getElem?_cons_zero]; exact rfl) (by kernel_rfl) (by kernel_rfl) (by kernel_rfl) (fun _ _ _ h => h) (Or.inl ⟨by rfl, ?hgyd28⟩) K3.out.1 ?hgrd28
          case hgyd28 => (intro wh hSw; replace hSw := And.intro (eight_lit8 hSw.b.w) (And.intro (eight_lit8 hSw.p) (And.intro (eight_lit8 hSw.q) (HC.out _ hSw))); go_simp; all_goals (with_reducible rfl))
          try simp only [Act.put, List.setIfInBounds_toArray, List.set_cons_zero, List.set_cons_succ]
          refine wpAnyH_take (i := 29) (v := ?hgvd29) (by simp only [List.getElem?_toArray, List.getElem?_cons_succ, List.getElem?_cons_zero]; exact rfl) (by kernel_rfl) (by kernel_rfl) (by kernel_rfl) (fun _ _ _ h => h) (Or.inl ⟨by rfl, ?hgyd29⟩) K3.out.1 ?hgrd29
          case hgyd29 => (intro wh hSw; replace hSw := And.intro (eight_lit8 hSw.b.w) (And.intro (eight_lit8 hSw.p) (And.intro (eight_lit8 hSw.q) (HC.out _ hSw))); go_simp; all_goals (with_reducible rfl))
          try simp only [Act.put, List.setIfInBounds_toArray, List.set_cons_zero, List.set_cons_succ]
          refine wpAnyH_take (i := 30) (v := ?hgvd30) (by simp only [List.getElem?_toArray, List.getElem?_cons_succ, List.getElem?_cons_zero]; exact rfl) (by kernel_rfl) (by kernel_rfl) (by kernel_rfl) (fun _ _ _ h => h) (Or.inl ⟨by rfl, ?hgyd30⟩) K3.out.1 ?hgrd30
          case hgyd30 => (intro wh hSw; replace hSw := And.intro (eight_lit8 hSw.b.w) (And.intro (eight_lit8 hSw.p) (And.intro (eight_lit8 hSw.q) (HC.out _ hSw))); go_simp; all_goals (with_reducible rfl))
          try simp only [Act.put, List.setIfInBounds_toArray, List.set_cons_zero, List.set_cons_succ]
          refine wpAnyH_take (i := 32) (v := ?hgvd32) (by simp only [List.getElem?_toArray, List.getElem?_cons_succ, List.getElem?_cons_zero]; exact rfl) (by kernel_rfl) (by kernel_rfl) (by kernel_rfl) (fun _ _ _ h => h) (Or.inl ⟨by rfl, ?hgyd32⟩) K3.out.1 ?hgrd32
          case hgyd32 => (intro wh hSw; replace hSw := And.intro (eight_lit8 hSw.b.w) (And.intro (eight_lit8 hSw.p) (And.intro (eight_lit8 hSw.q) (HC.out _ hSw))); go_simp; all_goals (with_reducible rfl))
          try simp only [Act.put, List.setIfInBounds_toArray, List.set_cons_zero, List.set_cons_succ]
          refine wpAnyH_take (i := 33) (v := ?hgvd33) (by simp only [List.getElem?_toArray, List.getElem?_cons_succ, List.getElem?_cons_zero]; exact rfl) (by kernel_rfl) (by kernel_rfl) (by kernel_rfl) (fun _ _ _ h => h) (Or.inl ⟨by rfl, ?hgyd33⟩) K3.out.1 ?hgrd33
          case hgyd33 => (intro wh hSw; replace hSw := And.intro (eight_lit8 hSw.b.w) (And.intro (eight_lit8 hSw.p) (And.intro (eight_lit8 hSw.q) (HC.out _ hSw))); go_simp; all_goals (with_reducible rfl))
          try simp only [Act.put, List.setIfInBounds_toArray, List.set_cons_zero, List.set_cons_succ]
          refine wpAnyH_ready (rs := [31]) (by kernel_rfl) (by simp) ?_
          refine AllReadyH.cons (by simp only [List.getElem?_toArray, List.getElem?_cons_succ, List.getElem?_cons_zero]; exact rfl) (fun K hK => ?_) AllReadyH.nil
          go_simp
          refine (hli1.out _).mono ?_
          rintro e w4 ⟨A1, c1, rfl, HI1, hb⟩
          have K4 := hide (And.intro (K3.out.1.step hb) (K3.out.2.below hb))
          have HT1 := hide HI1; clear HI1
          refine hK.out _ _ K4.out.1 (fun hx => ?_)
          clear hx hK K K3 hb
          try simp only [List.setIfInBounds_toArray, List.set_cons_zero, List.set_cons_succ]
          clear w3
          refine wpAnyH_ready (rs := [34]) (by kernel_rfl) (by simp) ?_
          refine AllReadyH.cons (by simp only [List.getElem?_toArray, List.getElem?_cons_succ, List.getElem?_cons_zero]; exact rfl) (fun K hK => ?_) AllReadyH.nil
          go_simp
          refine (hli2.out _).mono ?_
          rintro e w5 ⟨A2, c2, rfl, HI2, hb⟩
          have K5 := hide (And.intro (K4.out.1.step hb) (K4.out.2.below hb))
          replace HT1 := hide (HT1.out.below hb); have HT2 := hide HI2; clear HI2
          refine hK.out _ _ K5.out.1 (fun hx => ?_)
          clear hx hK K K4 hb
          try simp only [List.setIfInBounds_toArray, List.set_cons_zero, List.set_cons_succ]
          clear w4
          refine wpAnyH_ready (rs := [35]) (by kernel_rfl) (by simp) ?_
          refine AllReadyH.cons (by simp only [List.getElem?_toArray, List.getElem?_cons_succ, List.getElem?_cons_zero]; exact rfl) (fun K hK => ?_) AllReadyH.nil
          go_simp
          refine (hsame.out _ A1 A2 c1 c2 HT1.out HT2.out).mono ?_
          rintro e w6 ⟨rfl, hb⟩
          have K6 := hide (And.intro (K5.out.1.step hb) (K5.out.2.below hb))
          clear HT1 HT2
          refine hK.out _ _ K6.out.1 (fun hx => ?_)
          clear hx hK K K5 hb
          try simp only [List.setIfInBounds_toArray, List.set_cons_zero, List.set_cons_succ]
          clear w5
          refine wpAnyH_take (i := 36) (v := ?hgvd36) (by simp only [List.getElem?_toArray, List.getElem?_cons_succ, List.getElem?_cons_zero]; exact rfl) (by kernel_rfl) (by kernel_rfl) (by kernel_rfl) (fun _ _ _ h => h) (Or.inl ⟨by rfl, ?hgyd36⟩) K6.out.1 ?hgrd36
          case hgyd36 => (intro wh hSw; replace hSw := And.intro (eight_lit8 hSw.b.w) (And.intro (eight_lit8 hSw.p) (And.intro (eight_lit8 hSw.q) (HC.out _ hSw))); go_simp; all_goals (with_reducible rfl))
          try simp only [Act.put, List.setIfInBounds_toArray, List.set_cons_zero, List.set_cons_succ]
          refine wpAnyH_take (i := 37) (v := ?hgvd37) (by simp only [List.getElem?_toArray, List.getElem?_cons_succ, List.getElem?_cons_zero]; exact rfl) (by kernel_rfl) (by kernel_rfl) (by kernel_rfl) (fun _ _ _ h => h) (Or.inl ⟨by rfl, ?hgyd37⟩) K6.out.1 ?hgrd37
          case hgyd37 => (intro wh hSw; replace hSw := And.intro (eight_lit8 hSw.b.w) (And.intro (eight_lit8 hSw.p) (And.intro (eight_lit8 hSw.q) (HC.out _ hSw))); go_simp; all_goals (with_reducible rfl))
          try simp only [Act.put, List.setIfInBounds_toArray, List.set_cons_zero, List.set_cons_succ]
          refine wpAnyH_take (i := 38) (v := ?hgvd38) (by simp only [List.getElem?_toArray, List.getElem?_cons_succ, List.getElem?_cons_zero]; exact rfl) (by kernel_rfl) (by kernel_rfl) (by kernel_rfl) (fun _ _ _ h => h) (Or.inl ⟨by rfl, ?hgyd38⟩) K6.out.1 ?hgrd38
          case hgyd38 => (intro wh hSw; replace hSw := And.intro (eight_lit8 hSw.b.w) (And.intro (eight_lit8 hSw.p) (And.intro (eight_lit8 hSw.q) (HC.out _ hSw))); go_simp; all_goals (with_reducible rfl))
          try simp only [Act.put, List.setIfInBounds_toArray, List.set_cons_zero, List.set_cons_succ]
          refine wpAnyH_take (i := 39) (v := ?hgvd39) (by simp only [List.getElem?_toArray, List.getElem?_cons_succ, List.getElem?_cons_zero]; exact rfl) (by kernel_rfl) (by kernel_rfl) (by kernel_rfl) (fun _ _ _ h => h) (Or.inl ⟨by rfl, ?hgyd39⟩) K6.out.1 ?hgrd39
          case hgyd39 => (intro wh hSw; replace hSw := And.intro (eight_lit8 hSw.b.w) (And.intro (eight_lit8 hSw.p) (And.intro (eight_lit8 hSw.q) (HC.out _ hSw))); go_simp; all_goals (with_reducible rfl))
          try simp only [Act.put, List.setIfInBounds_toArray, List.set_cons_zero, List.set_cons_succ]
          refine wpAnyH_ready (rs := [40]) (by kernel_rfl) (by simp) ?_
          refine AllReadyH.cons (by simp only [List.getElem?_toArray, List.getElem?_cons_succ, List.getElem?_cons_zero]; exact rfl) (fun K hK => ?_) AllReadyH.nil
          go_simp
          refine (hat.out _).mono ?_
          rintro e w7 ⟨rfl, hb⟩
          have K7 := hide (And.intro (K6.out.1.step hb) (K6.out.2.below hb))
          refine hK.out _ _ K7.out.1 (fun hx => ?_)
          clear hx hK K K6 hb
          try simp only [List.setIfInBounds_toArray, List.set_cons_zero, List.set_cons_succ]
          clear w6
          refine wpAnyH_ready (rs := [41]) (by kernel_rfl) (by simp) ?_
          refine AllReadyH.cons (by simp only [List.getElem?_toArray, List.getElem?_cons_succ, List.getElem?_cons_zero]; exact rfl) (fun K hK => ?_) AllReadyH.nil
          go_simp
          refine (hint.out _ (HD.out _ K7.out.1)).mono ?_
          rintro e w8 ⟨rfl, hb⟩
          have K8 := hide (And.intro (K7.out.1.step hb) (K7.out.2.below hb))
          refine hK.out _ _ K8.out.1 (fun hx => ?_)
          clear hx hK K K7 hb
          try simp only [List.setIfInBounds_toArray, List.set_cons_zero, List.set_cons_succ]
          clear w7
          refine wpAnyH_take (i := 42) (v := ?hgvd42) (by simp only [List.getElem?_toArray, List.getElem?_cons_succ, List.getElem?_cons_zero]; exact rfl) (by kernel_rfl) (by kernel_rfl) (by kernel_rfl) (fun _ _ _ h => h) (Or.inl ⟨by rfl, ?hgyd42⟩) K8.out.1 ?hgrd42
          case hgyd42 => (intro wh hSw; replace hSw := And.intro (eight_lit8 hSw.b.w) (And.intro (eight_lit8 hSw.p) (And.intro (eight_lit8 hSw.q) (HC.out _ hSw))); go_simp; all_goals (with_reducible rfl))
          try simp only [Act.put, List.setIfInBounds_toArray, List.set_cons_zero, List.set_cons_succ]
          refine wpAnyH_take (i := 43) (v := ?hgvd43) (by simp only [List.getElem?_toArray, List.getElem?_cons_succ, List.getElem?_cons_zero]; exact rfl) (by kernel_rfl) (by kernel_rfl) (by kernel_rfl) (fun _ _ _ h => h) (Or.inl ⟨by rfl, ?hgyd43⟩) K8.out.1 ?hgrd43
          case hgyd43 => (intro wh hSw; replace hSw := And.intro (eight_lit8 hSw.b.w) (And.intro (eight_lit8 hSw.p) (And.intro (eight_lit8 hSw.q) (HC.out _ hSw))); go_simp; all_goals (with_reducible rfl))
          try simp only [Act.put, List.setIfInBounds_toArray, List.set_cons_zero, List.set_cons_succ]
          refine wpAnyH_ready (rs := [44]) (by kernel_rfl) (by simp) ?_
          refine AllReadyH.cons (by simp only [List.getElem?_toArray, List.getElem?_cons_succ, List.getElem?_cons_zero]; exact rfl) (fun K hK => ?_) AllReadyH.nil
          go_simp
          refine (runs_any _).mono ?_
          rintro e w9 ⟨rfl, hb⟩
          have K9 := hide (And.intro (K8.out.1.step hb) (K8.out.2.below hb))
          refine hK.out _ _ K9.out.1 (fun hx => ?_)
          clear hx hK K K8 hb
          try simp only [List.setIfInBounds_toArray, List.set_cons_zero, List.set_cons_succ]
          clear w8
          refine wpAnyH_take (i := 45) (v := ?hgvd45) (by simp only [List.getElem?_toArray, List.getElem?_cons_succ, List.getElem?_cons_zero]; exact rfl) (by kernel_rfl) (by kernel_rfl) (by kernel_rfl) (fun _ _ _ h => h) (Or.inl ⟨by rfl, ?hgyd45⟩) K9.out.1 ?hgrd45
          case hgyd45 => (intro wh hSw; replace hSw := And.intro (eight_lit8 hSw.b.w) (And.intro (eight_lit8 hSw.p) (And.intro (eight_lit8 hSw.q) (HC.out _ hSw))); go_simp; all_goals (with_reducible rfl))
          try simp only [Act.put, List.setIfInBounds_toArray, List.set_cons_zero, List.set_cons_succ]
          refine wpAnyH_take (i := 46) (v := ?hgvd46) (by simp only [List.getElem?_toArray, List.getElem?_cons_succ, List.getElem?_cons_zero]; exact rfl) (by kernel_rfl) (by kernel_rfl) (by kernel_rfl) (fun _ _ _ h => h) (Or.inl ⟨by rfl, ?hgyd46⟩) K9.out.1 ?hgrd46
          case hgyd46 => (intro wh hSw; replace hSw := And.intro (eight_lit8 hSw.b.w) (And.intro (eight_lit8 hSw.p) (And.intro (eight_lit8 hSw.q) (HC.out _ hSw))); go_simp; all_goals (with_reducible rfl))
          try simp only [Act.put, List.setIfInBounds_toArray, List.set_cons_zero, List.set_cons_succ]
          refine wpAnyH_done (by kernel_rfl) ?_ _
          refine NoPanic.normal ?_
          have KE := hide K9.out.1
          clear K9
          generalize w9 = we at KE ⊢
          go_wp2
          go_ret
          exact ⟨rfl, (HD.out _ KE.out).b.low⟩
set_option maxRecDepth 100000 in
theorem lifted (os : Os) (started : os.Started) (H : Type) (enc : TypeId × Value → H) :
    ReturnsInHanded {} Try.checked os 4 .any (Rows.depsTellsSpec.pre6 enc Try.prog Try.f4 Rows.depsTellsRow.domain false) (Rows.depsTellsSpec.post enc Try.prog Try.f4 false true false false) := by
  refine returnsInHanded_of_change (C := Try.checked) own started (by kernel_rfl) Try.func4
    (ChangeSpec.witness6 (enc := enc) (C := Try.checked) false ⟨#[], #[.slice none 0 0, .agg #[.int .i64 0, .int .i64 0, .int .i64 0, .int .i64 0, .int .i64 0, .int .i64 0, .int .i64 0], .agg #[.int .i64 0, .int .i64 0, .int .i64 0, .int .i64 0, .int .i64 0, .int .i64 0, .int .i64 0], .agg #[.int .i64 0, .int .i64 0]], []⟩ 8 (by kernel_rfl) (by kernel_rfl) (by kernel_rfl) (by kernel_rfl)) ?_
  intro W base args ds gs before hval0 hW _ _
  have hval : ∀ (j : Nat) t v, Try.f4.params[j]? = some t → args[j]? = some v → Value.okWide Try.prog W .any base t v := hval0
  have hW' := hW
  obtain ⟨p, q, hA0, hV, rfl, _, _⟩ := hW
  have hA : DataW.TrodAll enc Try.prog W 0 (fun _ => true) true Try.f4.params.toList args.toList ds p := hA0
  rw [Try.params4] at hA hval
  obtain ⟨v0, vs0, d0, ds0, p0, q0, hargs, rfl, rfl, h0, r0⟩ := trodAll_cons hA
  obtain ⟨v1, vs1, d1, ds1, p1, q1, rfl, rfl, rfl, h1, r1⟩ := trodAll_cons r0
  obtain ⟨v2, vs2, d2, ds2, p2, q2, rfl, rfl, rfl, h2, r2⟩ := trodAll_cons r1
  obtain ⟨v3, vs3, d3, ds3, p3, q3, rfl, rfl, rfl, h3, r3⟩ := trodAll_cons r2
  obtain ⟨rfl, rfl, rfl⟩ := trodAll_nil r3
  obtain rfl : args = #[v0, v1, v2, v3] := by cases args; simp_all
  obtain ⟨rfl, rfl⟩ := trodVars_none hV
  have k0 := h0
  have lt0 : ∀ x ∈ p0, x.block < W.heap.size := by obtain ⟨m, hm⟩ := k0; exact DataW.trod_lt m _ _ _ hm
  obtain ⟨A0, n0, c0, rfl⟩ := okWide_slice Try.underlying37 (hval 0 37 v0 rfl rfl)
  obtain ⟨z0, s0⟩ := attrs_in h0
  have k1 := h1
  have lt1 : ∀ x ∈ p1, x.block < W.heap.size := by obtain ⟨m, hm⟩ := k1; exact DataW.trod_lt m _ _ _ hm
  obtain ⟨e1x1, e1x2, e1x3, e1x4, e1x5, e1x6, e1x7, rfl, s1⟩ := deps_in (hval 1 23 v1 rfl rfl) h1
  have k2 := h2
  have lt2 : ∀ x ∈ p2, x.block < W.heap.size := by obtain ⟨m, hm⟩ := k2; exact DataW.trod_lt m _ _ _ hm
  obtain ⟨e2x1, e2x2, e2x3, e2x4, e2x5, e2x6, e2x7, rfl, s2⟩ := deps_in (hval 2 23 v2 rfl rfl) h2
  have k3 := h3
  have lt3 : ∀ x ∈ p3, x.block < W.heap.size := by obtain ⟨m, hm⟩ := k3; exact DataW.trod_lt m _ _ _ hm
  obtain ⟨x3, y3, rfl, bx3, by3⟩ := inst_in (hval 3 34 v3 rfl rfl) h3
  clear hA0 hval0
  refine (walk A0 n0 c0 z0 e1x1 e1x2 e1x3 e1x4 e1x5 e1x6 e1x7 e2x1 e2x2 e2x3 e2x4 e2x5 e2x6 e2x7 x3 y3 W s0 s1 s2 bx3 by3).mono fun e W' ⟨he, bel⟩ => ?_
  subst he
  exact ⟨_, rfl, _, _, _, [], _, [], hW', trodAll_mk1 (shut_bool Try.underlying4 _), (trodAll_cons_mk (Below.trod laidOut (by kernel_rfl) (of_decide_eq_true (by kernel_rfl)) k0 bel lt0) (trodAll_cons_mk (Below.trod laidOut (by kernel_rfl) (of_decide_eq_true (by kernel_rfl)) k1 bel lt1) (trodAll_cons_mk (Below.trod laidOut (by kernel_rfl) (of_decide_eq_true (by kernel_rfl)) k2 bel lt2) (trodAll_cons_mk (Below.trod laidOut (by kernel_rfl) (of_decide_eq_true (by kernel_rfl)) k3 bel lt3) trodAll_mk0)))), rfl, bel.frame _, fun h => by cases h⟩
theorem over : Rows.depsTellsRow.holds Try.pinned (OpenSpec.ofChange Rows.depsTellsSpec) :=
  OpenClaim.holds_of_wide 4 Try.f4 rfl rfl rfl rfl rfl rfl rfl ⟨rfl, rfl, rfl, rfl, rfl⟩ rfl rfl rfl rfl rfl (by kernel_rfl) Try.func4 (by kernel_rfl)
    (of_decide_eq_true (by kernel_rfl)) (by unfold Func.isWrapper; first | (rw [if_pos (by decide +kernel)]; kernel_rfl) | (rw [if_neg (by decide +kernel)]; exact ⟨rfl, rfl⟩))
    (fun os started H enc _ => lifted os started H enc)
theorem proved : Rows.DepsTellsSaid := over
end Go.Proofs.Ytpngcocmjbkfgaa.depsTells
