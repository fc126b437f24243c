/- QuorumOwner, without a program: what is said where the owner is among those asked. Appends of what was said as steps of a drawn region. Conditions: attributes are eight numbers. -/
import Derived.Test.YtjkdccokiaejhaaWm
import Derived.Deep.CutBlock
import Derived.Deep.DeepCutAuto
namespace Go.Proofs.Ytjkdccokiaejhaa
set_option maxRecDepth 100000
open Go.RowKit
/-- What the i-th from the owner on says. -/
def owL (hv : List Bool) (k o : Nat) (c : Cm) (a : List Int) (m : Nat) : List (Int × Cl) := (List.range m).map fun i => ((((o + i) % k : Nat) : Int), if hv.getD ((o + i) % k) false then ⟨1, (0, 0), (0, 0), c, a, true⟩ else zeroCl)
def smL (hv : List Bool) (k o m : Nat) : Bool := (List.range m).any fun i => hv.getD ((o + i) % k) false
section
variable {hv : List Bool} {k o : Nat} {c : Cm} {a : List Int}
theorem ow_succ (m : Nat) : owL hv k o c a (m + 1) = owL hv k o c a m ++ [((((o + m) % k : Nat) : Int), if hv.getD ((o + m) % k) false then ⟨1, (0, 0), (0, 0), c, a, true⟩ else zeroCl)] := by
  unfold owL
  rw [List.range_succ, List.map_append]
  rfl
theorem sm_succ (m : Nat) : smL hv k o (m + 1) = (smL hv k o m || hv.getD ((o + m) % k) false) := by
  unfold smL
  rw [List.range_succ, List.any_append]
  simp
theorem ow_len (m : Nat) : (owL hv k o c a m).length = m := by unfold owL; rw [List.length_map, List.length_range]
theorem ow_8 (h8 : a.length = 8) (m : Nat) : ∀ e, e ∈ owL hv k o c a m → e.2.a.length = 8 := fun e he => by
  unfold owL at he
  obtain ⟨i, _, rfl⟩ := List.mem_map.1 he
  show (if hv.getD ((o + i) % k) false then (⟨1, (0, 0), (0, 0), c, a, true⟩ : Cl) else zeroCl).a.length = 8
  split
  · exact h8
  · rfl
/-- Turned round in any way they come to the proposal again, or, if nobody has it, to nothing. -/
theorem owner_says (ho : o < k) (t : Nat) : prepL k o ((owL hv k o c a (k / 2 + 1)).drop t ++ (owL hv k o c a (k / 2 + 1)).take t) = if smL hv k o (k / 2 + 1) then (3, c, a) else (4, zeroC, zero8) := by
  have hmem : ∀ e, e ∈ (owL hv k o c a (k / 2 + 1)).drop t ++ (owL hv k o c a (k / 2 + 1)).take t ↔ e ∈ owL hv k o c a (k / 2 + 1) := fun e => by
    conv => rhs; rw [← List.take_append_drop t (owL hv k o c a (k / 2 + 1))]
    rw [List.mem_append, List.mem_append, or_comm]
  have hlen : ((owL hv k o c a (k / 2 + 1)).drop t ++ (owL hv k o c a (k / 2 + 1)).take t).length = k / 2 + 1 := by
    rw [List.length_append, List.length_drop, List.length_take, ow_len]
    omega
  rw [prep_owner (c := c) (a := a) (by rw [hlen]; exact Nat.le_refl _) ?_ ?_]
  · by_cases hs : smL hv k o (k / 2 + 1) = true
    · rw [if_pos hs, if_pos]
      unfold smL at hs
      obtain ⟨i, hi, hv'⟩ := List.any_eq_true.1 hs
      refine ⟨_, (hmem _).2 (List.mem_map.2 ⟨i, hi, rfl⟩), ?_⟩
      simp only [hv', if_true]
    · rw [if_neg hs, if_neg]
      rintro ⟨e, he, hst⟩
      unfold owL at hmem
      obtain ⟨i, hi, rfl⟩ := List.mem_map.1 ((hmem e).1 he)
      refine hs (List.any_eq_true.2 ⟨i, hi, ?_⟩)
      by_cases h : hv.getD ((o + i) % k) false = true
      · exact h
      · simp only [if_neg h] at hst
        cases hst
  · refine ⟨_, (hmem _).2 (List.mem_map.2 ⟨0, List.mem_range.2 (by omega), rfl⟩), ?_⟩
    simp only [Nat.add_zero]
    rw [Nat.mod_eq_of_lt ho]
  · intro e he
    have h1 := (hmem e).1 he
    unfold owL at h1
    obtain ⟨i, _, rfl⟩ := List.mem_map.1 h1
    by_cases h : hv.getD ((o + i) % k) false = true
    · simp only [h, if_true]
      exact .inl ⟨trivial, trivial, trivial⟩
    · simp only [if_neg h]
      exact .inr rfl
end
theorem lit0_said (w : World) : (Instr.buildSlice 51 0 #[]).run Try.prog w = .ok (.slice (some ⟨w.heap.size, 0, none⟩) 0 0) (w.alloc (.cells #[] 36)) := by
  have u9 := Try.underlying51
  have z9 := Try.sizeOf36
  go_simp
theorem step_lit0 {T : TypeId} {ops : Array Oper} {d : Option Tmp} {ty : TypeId} {ps : String} {af : Array Edge} {a : Act} {w w' : World} {v : Value} {K : Act → World → Prop} {Q : Exit → Act → World → Prop} {E : Prop}
    (hr : (Instr.buildSlice T 0 #[]).run Try.prog w = .ok v w') (hk : K (a.put d v) w') :
    if Region.wanted ({ dst := d, op := .buildSlice T 0 #[], type := ty, pos := ps, after := af, guard := none } : Oper) (yielded ops a.tmps) = true then Oper.wp Try.prog { dst := d, op := .buildSlice T 0 #[], type := ty, pos := ps, after := af, guard := none } a w K Q else E := by
  rw [if_pos (by simp [Region.wanted])]
  unfold Oper.wp execOp
  simp only [List.map_toArray, List.map_nil, Sem.run_bind, Sem.run_pure, Result.andThen_ok, hr]
  exact hk
/-- An empty literal. -/
theorem Rsd.lit0 (base : Nat) (w : World) (hb : base ≤ w.heap.size) : Rsd base (w.alloc (.cells #[] 36)) (.slice (some ⟨w.heap.size, 0, none⟩) 0 0) [] := by
  unfold Rsd Rw
  refine ⟨by simp [cellsV], .inr ⟨w.heap.size, 0, #[], rfl, hb, ?_, Nat.le_refl _, by unfold maxLen; omega, by simp, by simp [cellsV]⟩⟩
  exact Row.new w 36 #[]
/-- append of what lies, as a step of a drawn region. -/
theorem step_append_sds {ops : Array Oper} {d : Option Tmp} {ty : TypeId} {ps : String} {af : Array Edge} {s x : Operand} {a : Act} {w : World} {K : Act → World → Prop} {Q : Exit → Act → World → Prop} {E : Prop} {base : Nat} {v : Value} {l r : List (Int × Cl)} {A : Option Addr} {m c : Nat}
    (hs : a.eval s = v) (hown : Rsd base w v l) (hx : a.eval x = .slice A m c) (hm : r.length = m) (hc : A = none → c = 0) (hl : Sds w A r) (hb : l.length + m ≤ 1000) (hbase : base ≤ w.heap.size)
    (hk : ∀ v' w', Rsd base w' v' (l ++ r) → w.grownBy w' v.ownBlock → K (a.put d v') w') :
    if Region.wanted ({ dst := d, op := .call { callee := .builtin .append, args := #[s, x], argTypes := #[51, 51] }, type := ty, pos := ps, after := af, guard := none } : Oper) (yielded ops a.tmps) = true then Oper.wp Try.prog { dst := d, op := .call { callee := .builtin .append, args := #[s, x], argTypes := #[51, 51] }, type := ty, pos := ps, after := af, guard := none } a w K Q else E := by
  rw [if_pos (by simp [Region.wanted])]
  have hR := hown
  unfold Rsd Rw at hR
  obtain ⟨v', w', hr, r1, r2, _⟩ := run_append_els (P := Try.prog) (w := w) base 51 ty 36 _ _ 208 rfl rfl rfl rfl rfl (by decide) rfl v (l.map sdl).length (l.map sdl) hR A m c (r.map sdl)
    (sd_all hl.a8) (by rw [List.length_map]; exact hm) hc hl.e (by rw [List.length_map]; omega) (by rw [List.length_map]; omega) hbase
  unfold Oper.wp execOp
  simp only [resolve, invoke, builtin, Sem.run_bind, Sem.run_pure, Result.andThen_ok, List.map_toArray, List.map_cons, List.map_nil, hs, hx, hr]
  refine hk v' w' ?_ r2
  unfold Rsd Rw
  rw [List.map_append, List.length_append, show (r.map sdl).length = m from (List.length_map sdl).trans hm]
  exact r1
/-- A part of them. -/
theorem Sds.drop {w : World} {b off n : Nat} {l : List (Int × Cl)} (h : Sds w (some ⟨b, off, none⟩) l) (t : Nat) (ht : t < n) (hn : n ≤ l.length) : Sds w (some ⟨b, off + t * 22, none⟩) (l.drop t) := by
  refine ⟨?_, fun e he => h.a8 e (List.mem_of_mem_drop he)⟩
  have h1 := h.e.rest (c := l.length) (by rw [List.length_map]; exact Nat.le_refl _) t
  rw [List.map_drop]
  unfold partV at h1
  rw [if_neg (by omega), show Option.map (fun x => x.add (t * 22)) (some (⟨b, off, none⟩ : Addr)) = some ⟨b, off + t * 22, none⟩ from by show some ((⟨b, off, none⟩ : Addr).add (t * 22)) = _; rw [Go.WideShapes.add_plain]] at h1
  exact h1
theorem Sds.take {w : World} {A : Option Addr} {l : List (Int × Cl)} (h : Sds w A l) (t : Nat) : Sds w A (l.take t) := ⟨by rw [List.map_take]; exact h.e.take t, fun e he => h.a8 e (List.mem_of_mem_take he)⟩
end Go.Proofs.Ytjkdccokiaejhaa
/- QuorumOwner walked. Conditions: attributes are eight numbers, the flags seven. -/
namespace Go.Proofs.Ytjkdccokiaejhaa
set_option maxRecDepth 100000
open Go.RowKit
/-- The arguments' blocks. -/
structure Qo (W w : World) (hv : List Bool) (cm : Cm) (a : List Int) : Prop where
  low : Below W.heap.size W w
  hv : Row w W.heap.size 63 (flC hv)
  c : Row w (W.heap.size + 1) 32 (rowC cm)
  a : Row w (W.heap.size + 1 + 1) 26 (cA a)
section
variable {W w w' : World} {hv : List Bool} {cm : Cm} {a : List Int}
theorem Qo.kept (h : Qo W w hv cm a) (hb : Below w.heap.size w w') : Qo W w' hv cm a := ⟨kept_trans h.low hb, h.hv.below hb h.hv.lt, h.c.below hb h.c.lt, h.a.below hb h.a.lt⟩
theorem Qo.far (h : Qo W w hv cm a) {g : Nat} (hg : w.grownBy w' (some g)) (l : W.heap.size + 1 + 1 < g) : Qo W w' hv cm a :=
  ⟨below_own h.low hg (by omega), h.hv.grown hg (by simp; omega), h.c.grown hg (by simp; omega), h.a.grown hg (by simp; omega)⟩
theorem Qo.opt (h : Qo W w hv cm a) {o : Option Nat} (hg : w.grownBy w' o) (l : ∀ j, o = some j → W.heap.size + 1 + 1 < j) : Qo W w' hv cm a :=
  ⟨below_opt h.low hg (fun j e => by have := l j e; omega), h.hv.grown hg (fun e => by have := l _ e.symm; omega), h.c.grown hg (fun e => by have := l _ e.symm; omega), h.a.grown hg (fun e => by have := l _ e.symm; omega)⟩
theorem Qo.start (W : World) (hv : List Bool) (cm : Cm) (a : List Int) : Qo W (((W.alloc (.cells (flC hv) 63)).alloc (.cells (rowC cm) 32)).alloc (.cells (cA a) 26)) hv cm a := by
  have s1 : (W.alloc (.cells (flC hv) 63)).heap.size = W.heap.size + 1 := by simp
  have s2 : ((W.alloc (.cells (flC hv) 63)).alloc (.cells (rowC cm) 32)).heap.size = W.heap.size + 1 + 1 := by simp
  refine ⟨kept_alloc (kept_alloc (kept_alloc (kept_refl W) _) _) _, ((Row.new W _ _).alloc _).alloc _, ?_, ?_⟩
  · rw [← s1]; exact (Row.new _ _ _).alloc _
  · rw [← s2]; exact Row.new _ _ _
end
theorem Rsd.apart {base : Nat} {w w' : World} {v : Value} {l : List (Int × Cl)} {o : Option Nat} (h : Rsd base w v l) (hg : w.grownBy w' o) (hn : o ≠ v.ownBlock) : Rsd base w' v l := Rw.far h hg hn
theorem Rsd.form {base : Nat} {w : World} {v : Value} {l : List (Int × Cl)} (h : Rsd base w v l) (hn : 0 < l.length) : ∃ g c, v = .slice (some ⟨g, 0, none⟩) l.length c ∧ base ≤ g ∧ g < w.heap.size ∧ l.length ≤ c := by
  have h1 := h
  unfold Rsd Rw at h1
  rw [List.length_map] at h1
  obtain ⟨A, c, rfl, hA, hc, _, ho⟩ := els_own_form h1
  cases A with
  | none => rw [hA rfl] at hc; omega
  | some x =>
    obtain ⟨b, off, spot⟩ := x
    obtain ⟨e1, e2⟩ := ho _ rfl
    simp only at e1 e2
    subst e1 e2
    obtain ⟨l1, l2⟩ := h.lt b rfl
    exact ⟨b, c, rfl, l1, l2, hc⟩
theorem eql_cm0 (x : Cm) (w : World) : (binOp .eql 32 (.agg #[.int .i64 x.k, .int .i64 x.c, .int .i64 x.q, .string x.key, .string x.en, .string x.old, .string x.val]) (.agg #[.int .i64 x.k, .int .i64 x.c, .int .i64 x.q, .string x.key, .string x.en, .string x.old, .string x.val])).run Try.prog w = .ok (.bool true) w := by
  have h := eql_cmd x.k x.c x.q x.key x.en x.old x.val x.k x.c x.q x.key x.en x.old x.val w
  rw [sameC_iff.2 rfl] at h
  exact h
set_option maxHeartbeats 16000000 in
theorem owner_walk {n ow fr : Int} {hv : List Bool} {cm : Cm} {a : List Int} (W : World) (hh : hv.length = 7) (h8 : a.length = 8) :
    Calls Try.prog 9 #[.int .i64 n, .int .i64 ow, .agg (flC hv), .agg (rowC cm), .agg (cA a), .int .i64 fr] W fun e w' => e = .returned (.bool true) ∧ Below W.heap.size W w' := by
  obtain ⟨k, hk, hF⟩ := fit_any n
  have HF := hide hF
  have HP0 := hide (Qo.start W hv cm a)
  have HKK := hide hk
  have HH7 := hide hh
  have hz8 : zeroCl.a.length = 8 := rfl
  have hk7 : k ≤ 7 := by omega
  have hk3 : 3 ≤ k := by omega
  have hb1 := withinI_bounds ow 0 ((k : Int) - 1) (by omega)
  have HW1 := hide (fun w => within_any ow 0 ((k : Int) - 1) w (by omega) (by omega) (by omega))
  obtain ⟨o, ho⟩ : ∃ o : Nat, withinI ow 0 ((k : Int) - 1) = (o : Int) := ⟨(withinI ow 0 ((k : Int) - 1)).toNat, by omega⟩
  rw [ho] at hb1 HW1
  have hok : o < k := by omega
  have HSAY := hide (fun t => owner_says (hv := hv) (c := cm) (a := a) hok t)
  obtain ⟨S, hS⟩ : ∃ S, k / 2 + 1 = S := ⟨_, rfl⟩
  rw [hS] at HSAY
  have HS := hide (fun w => pslow_any k (by omega) w)
  rw [hS] at HS
  have hS2 : S ≤ 4 := by omega
  have hS1 : 1 ≤ S := by omega
  have hb2 := withinI_bounds fr 0 ((S : Int) - 1) (by omega)
  have HW2 := hide (fun w => within_any fr 0 ((S : Int) - 1) w (by omega) (by omega) (by omega))
  obtain ⟨tu, htu⟩ : ∃ tu : Nat, withinI fr 0 ((S : Int) - 1) = (tu : Int) := ⟨(withinI fr 0 ((S : Int) - 1)).toNat, by omega⟩
  rw [htu] at hb2 HW2
  have htS : tu < S := by omega
  have HRR : Hid (∀ w : World, Calls Try.prog 3 #[] w fun e w' => e = .returned (.bool true) ∧ Below w.heap.size w w') := hide runs_ok
  have hk0 : ¬ (k : Int) = 0 := by omega
  clear hF hk hS ho hb1 hb2 htu hh
  go_enter Try.func9, Try.ntmps9
  go_upto_region 1 with (fail)
  generalize ((W.alloc (.cells (flC hv) 63)).alloc (.cells (rowC cm) 32)).alloc (.cells (cA a) 26) = w1 at HP0 ⊢
  have HP := HP0
  clear HP0
  go_upto_region 3 with (first
    | (go_at_call 24; (with_reducible refine (HF.out _).mono ?_); rintro e w2 ⟨rfl, hb⟩; replace HP := hide (HP.out.kept hb); clear hb)
    | (go_at_call 32; (with_reducible refine (HW1.out _).mono ?_); rintro e w6 ⟨rfl, hw⟩; subst hw))
  clear HF HW1
  have HR := hide (Rsd.nil_ w2.heap.size w2)
  have HBE := hide (Nat.le_refl w2.heap.size)
  have HGT := hide (show W.heap.size + 1 + 1 < w2.heap.size from HP.out.a.lt)
  obtain ⟨bs, hbs⟩ : ∃ bs, w2.heap.size = bs := ⟨_, rfl⟩
  rw [hbs] at HR HGT
  replace HBE := hide (show bs ≤ w2.heap.size from Nat.le_of_eq hbs.symm)
  clear hbs
  go_wp2
  go_loopw [15, 16, 17] (fun v sm ii wr => ∃ i : Nat, i ≤ S ∧ sm = .bool (smL hv k o i) ∧ ii = .int .i64 i ∧ Hid (Rsd bs wr v (owL hv k o cm a i)) ∧ Hid (Qo W wr hv cm a) ∧ Hid (bs ≤ wr.heap.size)) (fun _ _ ii _ => S - (intOf ii).toNat)
  case atStart => exact ⟨0, Nat.zero_le _, rfl, rfl, HR, HP, HBE⟩
  case round =>
    clear HR HP HBE
    obtain ⟨i, hi, rfl, rfl, HR, HP, HBE⟩ := hrel
    obtain ⟨A2, cc, hv2, _, _, _⟩ := HR.out.sds (ow_8 h8 i)
    rw [ow_len] at hv2
    subst hv2
    by_cases his : i < S
    · have hisi : (i : Int) < (S : Int) := by omega
      have hrk : (o + i) % k < k := Nat.mod_lt _ (by omega)
      have HLS := hide (ow_succ (hv := hv) (k := k) (o := o) (c := cm) (a := a) i)
      have HSS := hide (sm_succ (hv := hv) (k := k) (o := o) i)
      have hll : (owL hv k o cm a i).length ≤ 1000 := by rw [ow_len]; omega
      obtain ⟨r, hr⟩ : ∃ r, (o + i) % k = r := ⟨_, rfl⟩
      rw [hr] at HLS HSS hrk
      have hrm : ((o : Int) + (i : Int)).tmod (k : Int) = (r : Int) := by rw [← hr, Int.tmod_eq_emod_of_nonneg (by omega), ← Int.natCast_add]; rfl
      have hr7 : r < 7 := by omega
      have hr7i : (r : Int) < 7 := by omega
      have hr0i : (0 : Int) ≤ (r : Int) := by omega
      obtain ⟨bw, hbw⟩ : ∃ bw, hv[r]? = some bw := ⟨_, List.getElem?_eq_getElem (by rw [HH7.out]; exact hr7)⟩
      have HBW := hide hbw
      have HBV := hide (show hv.getD r false = bw from by rw [List.getD_eq_getElem?_getD, hbw]; rfl)
      generalize smL hv k o i = sm at HSS ⊢
      clear hr hbw
      go_upto_region 10 with (first
        | (go_at_call 18; (with_reducible refine (HS.out _).mono ?_); rintro e w5 ⟨rfl, hb⟩; subst hb)
        | ((with_reducible refine wpList_build_no ?_ (fill_cl _) ?_); rfl)
        | ((with_reducible refine wpList_store_new (vs := clC zeroCl) ?_ ?_ (cl_all _) ?_ ?_ ?_); (rw [clC_size hz8]; exact ce_info); (rw [clC_size hz8]; rfl); (first | rfl | (simp; done)); rfl))
      try dsimp only [Act.put]
      have HX := hide (CeAt.new hz8 wr 34)
      have HGX := hide (show W.heap.size + 1 + 1 < wr.heap.size from HP.out.a.lt)
      have HNX := hide (show some wr.heap.size ≠ Value.ownBlock (.slice A2 i cc) from fun e => by have := (HR.out.lt _ e.symm).2; omega)
      replace HP := hide (HP.out.kept (kept_alloc (kept_refl wr) (.cells (clC zeroCl) 34)))
      replace HR := hide (HR.out.below (kept_alloc (kept_refl wr) (.cells (clC zeroCl) 34)))
      replace HBE := hide (show bs ≤ (wr.alloc (.cells (clC zeroCl) 34)).heap.size from by simp; have := HBE.out; omega)
      generalize wr.alloc (.cells (clC zeroCl) 34) = w4 at HX HP HR HBE ⊢
      generalize wr.heap.size = gx at HX HGX HNX ⊢
      have q0 := flC_at HP.out.hv HBW.out
      cases bw
      · skip
        replace HLS := hide (show owL hv k o cm a (i + 1) = owL hv k o cm a i ++ [((r : Int), zeroCl)] from by rw [HLS.out, HBV.out]; rfl)
        replace HSS := hide (show smL hv k o (i + 1) = sm from by rw [HSS.out, HBV.out, Bool.or_false])
        go_wp2_with (first
          | ((with_reducible refine wpList_load_ce (y := zeroCl) hz8 ?_ ?_ HX.out.all ?_); rfl; rfl)
          | ((with_reducible refine build_2 (v := .agg (sdl ((r : Int), zeroCl)).toArray) rfl rfl ?_ ?_); exact fill_sd hz8 _)
          | ((with_reducible refine wpList_lit_sd (e := ((r : Int), zeroCl)) hz8 ?_ ?_); rfl; have HE := hide (Row.new w4 36 (sdl ((r : Int), zeroCl)).toArray); replace HP := hide (HP.out.kept (kept_alloc (kept_refl w4) (.cells (sdl ((r : Int), zeroCl)).toArray 36))); replace HR := hide (HR.out.below (kept_alloc (kept_refl w4) (.cells (sdl ((r : Int), zeroCl)).toArray 36))); have HBF := hide (show bs ≤ (w4.alloc (.cells (sdl ((r : Int), zeroCl)).toArray 36)).heap.size from by simp; have := HBE.out; omega); generalize w4.alloc (.cells (sdl ((r : Int), zeroCl)).toArray 36) = w6 at HE HP HR HBF ⊢; generalize w4.heap.size = ge at HE ⊢)
          | ((with_reducible refine wpList_append_sd (e := ((r : Int), zeroCl)) hz8 ?_ ?_ HR.out HE.out hll HBF.out ?_); rfl; rfl; intro v7 w7 hv7 hg7; replace HP := hide (HP.out.opt hg7 (fun j e => by have h1 := (HR.out.lt j e).1; have h2 := HGT.out; omega)); have HBH := hide (show bs ≤ w7.heap.size from Nat.le_trans HBF.out (grown_size hg7)); replace HR := hide hv7; clear hv7 hg7))
        go_roundw
        case rel => exact ⟨i + 1, by omega, by rw [HSS.out], by go_num, hide (by rw [HLS.out]; exact HR.out), HP, HBH⟩
        case measure => simp [intOf]; omega
      · skip
        replace HLS := hide (show owL hv k o cm a (i + 1) = owL hv k o cm a i ++ [((r : Int), (⟨1, (0, 0), (0, 0), cm, a, true⟩ : Cl))] from by rw [HLS.out, HBV.out]; rfl)
        replace HSS := hide (show smL hv k o (i + 1) = true from by rw [HSS.out, HBV.out, Bool.or_true])
        go_wp2_with (first
          | ((with_reducible refine wpList_load_cm ?_ ?_ HP.out.c.cm_at ?_); rfl; rfl)
          | ((with_reducible refine wpList_load_at h8 ?_ ?_ HP.out.a.at8 ?_); rfl; rfl)
          | ((with_reducible refine fill_4 (v := .agg (clC ⟨1, (0, 0), (0, 0), cm, a, true⟩)) rfl rfl rfl rfl ?_ ?_); exact fill_same h8 _)
          | ((with_reducible refine wpList_store_xw (y := ⟨1, (0, 0), (0, 0), cm, a, true⟩) h8 ?_ ?_ HX.out ?_); rfl; rfl; intro w5 hn hg; replace HP := hide (HP.out.far hg HGX.out); replace HR := hide (HR.out.apart hg HNX.out); replace HBE := hide (show bs ≤ w5.heap.size from Nat.le_trans HBE.out (grown_size hg)); replace HX := hide hn; clear hn hg)
          | ((with_reducible refine wpList_load_ce (y := ⟨1, (0, 0), (0, 0), cm, a, true⟩) h8 ?_ ?_ HX.out.all ?_); rfl; rfl)
          | ((with_reducible refine build_2 (v := .agg (sdl ((r : Int), ⟨1, (0, 0), (0, 0), cm, a, true⟩)).toArray) rfl rfl ?_ ?_); exact fill_sd h8 _)
          | ((with_reducible refine wpList_lit_sd (e := ((r : Int), ⟨1, (0, 0), (0, 0), cm, a, true⟩)) h8 ?_ ?_); rfl; have HE := hide (Row.new w5 36 (sdl ((r : Int), ⟨1, (0, 0), (0, 0), cm, a, true⟩)).toArray); replace HP := hide (HP.out.kept (kept_alloc (kept_refl w5) (.cells (sdl ((r : Int), ⟨1, (0, 0), (0, 0), cm, a, true⟩)).toArray 36))); replace HR := hide (HR.out.below (kept_alloc (kept_refl w5) (.cells (sdl ((r : Int), ⟨1, (0, 0), (0, 0), cm, a, true⟩)).toArray 36))); have HBF := hide (show bs ≤ (w5.alloc (.cells (sdl ((r : Int), ⟨1, (0, 0), (0, 0), cm, a, true⟩)).toArray 36)).heap.size from by simp; have := HBE.out; omega); generalize w5.alloc (.cells (sdl ((r : Int), ⟨1, (0, 0), (0, 0), cm, a, true⟩)).toArray 36) = w6 at HE HP HR HBF ⊢; generalize w5.heap.size = ge at HE ⊢)
          | ((with_reducible refine wpList_append_sd (e := ((r : Int), ⟨1, (0, 0), (0, 0), cm, a, true⟩)) h8 ?_ ?_ HR.out HE.out hll HBF.out ?_); rfl; rfl; intro v7 w7 hv7 hg7; replace HP := hide (HP.out.opt hg7 (fun j e => by have h1 := (HR.out.lt j e).1; have h2 := HGT.out; omega)); have HBH := hide (show bs ≤ w7.heap.size from Nat.le_trans HBF.out (grown_size hg7)); replace HR := hide hv7; clear hv7 hg7))
        go_roundw
        case rel => exact ⟨i + 1, by omega, by rw [HSS.out], by go_num, hide (by rw [HLS.out]; exact HR.out), HP, HBH⟩
        case measure => simp [intOf]; omega
    · have hisi : ¬ (i : Int) < (S : Int) := by omega
      have hiS : i = S := by omega
      subst hiS
      go_upto_region 16 with (go_at_call 18; (with_reducible refine (HS.out _).mono ?_); rintro e w5 ⟨rfl, hb⟩; subst hb)
      obtain ⟨L1, hL1⟩ : ∃ L1, owL hv k o cm a i = L1 := ⟨_, rfl⟩
      have HL1 := hide (show L1.length = i from by rw [← hL1, ow_len])
      have hL18 : ∀ e, e ∈ L1 → e.2.a.length = 8 := by rw [← hL1]; exact ow_8 h8 i
      rw [hL1] at HR HSAY
      clear hL1
      obtain ⟨gl, cc2, hv3, hgl, _, hcl⟩ := HR.out.form (by rw [HL1.out]; omega)
      rw [HL1.out] at hv3 hcl
      injection hv3 with e1 _ e3
      subst e1 e3
      go_upto_region 17 with (go_at_call 32; (with_reducible refine (HW2.out _).mono ?_); rintro e w6 ⟨rfl, hw⟩; subst hw)
      have hsd0 : Sds wr (some ⟨gl, 0, none⟩) L1 := by
        obtain ⟨Az, cz, hz, hs, _, _⟩ := HR.out.sds (hL18)
        injection hz with e1 e2 e3
        subst e1
        exact hs
      have HSD := hide (fun wz (h : Below wr.heap.size wr wz) => (show Sds wz (some ⟨gl, tu * 22, none⟩) (L1.drop tu) from by have h1 := (hsd0.below h).drop (n := i) tu (by omega) (by rw [HL1.out]; exact Nat.le_refl _); rwa [Nat.zero_add] at h1))
      have HST := hide (fun wz (h : Below wr.heap.size wr wz) => (hsd0.below h).take tu)
      clear hsd0
      have f1 : tu ≤ i := by omega
      have f2 : ¬ cc = tu := by omega
      have f3 : ¬ cc < tu := by omega
      have f4 : tu ≤ cc := by omega
      refine wp_region_noPanic ?_
      refine wp_region_U 9 (fun wz => Below wr.heap.size wr wz) (by kernel_rfl) ?_
      have HD := hide (show Below wr.heap.size wr wr.drew from kept_drewN (kept_refl wr) 1)
      generalize wr.drew = wd at HD ⊢
      refine anyU_take2 (i := 1) (v := .slice (some ⟨gl, 0, none⟩) i cc) (by simp only [List.getElem?_toArray, List.getElem?_cons_succ, List.getElem?_cons_zero]; exact rfl) (by kernel_rfl) 12 (by kernel_rfl) (by kernel_rfl) (fun _ _ _ h => h) (by kernel_rfl) (by kernel_rfl) (by kernel_rfl) (by kernel_rfl) (Or.inl ⟨by rfl, fun w hSw => (by go_simp; try with_reducible rfl)⟩) (by with_reducible exact HD.out) ?_
      try simp only [Act.put, List.setIfInBounds_toArray, List.set_cons_zero, List.set_cons_succ]
      refine anyU_take2 (i := 2) (v := .int .i64 (tu : Nat)) (by simp only [List.getElem?_toArray, List.getElem?_cons_succ, List.getElem?_cons_zero]; exact rfl) (by kernel_rfl) 12 (by kernel_rfl) (by kernel_rfl) (fun _ _ _ h => h) (by kernel_rfl) (by kernel_rfl) (by kernel_rfl) (by kernel_rfl) (Or.inl ⟨by rfl, fun w hSw => (by go_simp; try with_reducible rfl)⟩) (by with_reducible exact HD.out) ?_
      try simp only [Act.put, List.setIfInBounds_toArray, List.set_cons_zero, List.set_cons_succ]
      refine anyU_take2 (i := 3) (v := .slice (some ⟨gl, tu * 22, none⟩) (i - tu) (cc - tu)) (by simp only [List.getElem?_toArray, List.getElem?_cons_succ, List.getElem?_cons_zero]; exact rfl) (by kernel_rfl) 12 (by kernel_rfl) (by kernel_rfl) (fun _ _ _ h => h) (by kernel_rfl) (by kernel_rfl) (by kernel_rfl) (by kernel_rfl) (Or.inl ⟨by rfl, fun w hSw => (by go_simp; try with_reducible rfl)⟩) (by with_reducible exact HD.out) ?_
      try simp only [Act.put, List.setIfInBounds_toArray, List.set_cons_zero, List.set_cons_succ]
      refine anyU_take2 (i := 5) (v := .slice (some ⟨gl, 0, none⟩) i cc) (by simp only [List.getElem?_toArray, List.getElem?_cons_succ, List.getElem?_cons_zero]; exact rfl) (by kernel_rfl) 12 (by kernel_rfl) (by kernel_rfl) (fun _ _ _ h => h) (by kernel_rfl) (by kernel_rfl) (by kernel_rfl) (by kernel_rfl) (Or.inl ⟨by rfl, fun w hSw => (by go_simp; try with_reducible rfl)⟩) (by with_reducible exact HD.out) ?_
      try simp only [Act.put, List.setIfInBounds_toArray, List.set_cons_zero, List.set_cons_succ]
      refine anyU_take2 (i := 6) (v := .int .i64 (tu : Nat)) (by simp only [List.getElem?_toArray, List.getElem?_cons_succ, List.getElem?_cons_zero]; exact rfl) (by kernel_rfl) 12 (by kernel_rfl) (by kernel_rfl) (fun _ _ _ h => h) (by kernel_rfl) (by kernel_rfl) (by kernel_rfl) (by kernel_rfl) (Or.inl ⟨by rfl, fun w hSw => (by go_simp; try with_reducible rfl)⟩) (by with_reducible exact HD.out) ?_
      try simp only [Act.put, List.setIfInBounds_toArray, List.set_cons_zero, List.set_cons_succ]
      refine anyU_take2 (i := 7) (v := .slice (some ⟨gl, 0, none⟩) tu cc) (by simp only [List.getElem?_toArray, List.getElem?_cons_succ, List.getElem?_cons_zero]; exact rfl) (by kernel_rfl) 12 (by kernel_rfl) (by kernel_rfl) (fun _ _ _ h => h) (by kernel_rfl) (by kernel_rfl) (by kernel_rfl) (by kernel_rfl) (Or.inl ⟨by rfl, fun w hSw => (by go_simp; try with_reducible rfl)⟩) (by with_reducible exact HD.out) ?_
      try simp only [Act.put, List.setIfInBounds_toArray, List.set_cons_zero, List.set_cons_succ]
      refine anyU_one (i := 0) (by kernel_rfl) (by simp only [List.getElem?_toArray, List.getElem?_cons_zero]; exact rfl) (fun K hK => ?_)
      refine step_lit0 (lit0_said _) ?_
      have HN := hide (Rsd.lit0 wr.heap.size wd HD.out.size)
      replace HD := hide (kept_trans HD.out (kept_alloc (kept_refl wd) (.cells #[] 36)))
      generalize wd.alloc (.cells #[] 36) = we at HN HD ⊢
      generalize wd.heap.size = gn at HN ⊢
      refine hK.out _ _ (fun _ _ => HD.out) ?_
      clear hK K
      try simp only [Act.put, List.setIfInBounds_toArray, List.set_cons_zero, List.set_cons_succ]
      refine anyU_one (i := 4) (by kernel_rfl) (by simp only [List.getElem?_toArray, List.getElem?_cons_succ, List.getElem?_cons_zero]; exact rfl) (fun K hK => ?_)
      refine step_append_sds (A := (some ⟨gl, tu * 22, none⟩)) (m := (i - tu)) (c := (cc - tu)) (r := L1.drop tu) rfl HN.out rfl ?_ (fun h => by cases h) (HSD.out _ HD.out) ?_ HD.out.size ?_
      · rw [List.length_drop, HL1.out]
      · rw [List.length_nil]; omega
      intro v4 wf hn hg
      replace HD := hide (below_opt HD.out hg (fun j e => (HN.out.lt j e).1))
      replace HN := hide hn
      clear hn hg
      refine hK.out _ _ (fun _ _ => HD.out) ?_
      clear hK K
      try simp only [Act.put, List.setIfInBounds_toArray, List.set_cons_zero, List.set_cons_succ]
      refine anyU_one (i := 8) (by kernel_rfl) (by simp only [List.getElem?_toArray, List.getElem?_cons_succ, List.getElem?_cons_zero]; exact rfl) (fun K hK => ?_)
      refine step_append_sds (A := (some ⟨gl, 0, none⟩)) (m := tu) (c := cc) (r := L1.take tu) rfl HN.out rfl ?_ (fun h => by cases h) (HST.out _ HD.out) ?_ HD.out.size ?_
      · rw [List.length_take, HL1.out]; omega
      · rw [List.nil_append, List.length_drop, HL1.out]; omega
      intro v8 wg hn hg
      replace HD := hide (below_opt HD.out hg (fun j e => (HN.out.lt j e).1))
      replace HN := hide hn
      clear hn hg
      refine hK.out _ _ (fun _ _ => HD.out) ?_
      clear hK K
      try simp only [Act.put, List.setIfInBounds_toArray, List.set_cons_zero, List.set_cons_succ]
      refine anyU_one (i := 9) (by kernel_rfl) (by simp only [List.getElem?_toArray, List.getElem?_cons_succ, List.getElem?_cons_zero]; exact rfl) (fun K hK => ?_)
      try go_simp
      refine hK.out _ _ (fun e _ => absurd rfl e) ?_
      clear hK K
      try simp only [Act.put]
      refine anyU_done (by kernel_rfl) ?_
      refine NoPanic.normal ?_
      try simp only [Act.put]
      clear HSD HST HR f1 f2 f3 f4
      obtain ⟨gm, cm2, hv8, _, _, hcm⟩ := HN.out.form (by rw [List.nil_append, List.length_append, List.length_drop, List.length_take, HL1.out]; omega)
      have hlm : ([] ++ L1.drop tu ++ L1.take tu).length = i := by rw [List.nil_append, List.length_append, List.length_drop, List.length_take, HL1.out]; omega
      rw [hlm] at hv8 hcm
      have hl8 : ∀ e, e ∈ [] ++ L1.drop tu ++ L1.take tu → e.2.a.length = 8 := fun e he => by
        rw [List.nil_append, List.mem_append] at he
        rcases he with he | he
        · exact hL18 e (List.mem_of_mem_drop he)
        · exact hL18 e (List.mem_of_mem_take he)
      obtain ⟨Az, cz, hz, hs, _, _⟩ := HN.out.sds hl8
      rw [hv8] at hz
      injection hz with e1 e2 e3
      subst e1
      clear e2 e3
      subst hv8
      have HPC := hide (prep_ok k o (some ⟨gm, 0, none⟩) i cm2 ([] ++ L1.drop tu ++ L1.take tu) wg (by omega) (by omega) hlm hs (by omega) hcm (fun h => by cases h))
      rw [List.nil_append, HSAY.out tu] at HPC
      replace HP := hide (HP.out.kept HD.out)
      clear hs hlm hl8 hcm HN HD
      generalize smL hv k o i = sm at HPC ⊢
      have z88 : zero8.length = 8 := rfl
      have hea := fun w => eql_at h8 h8 w
      rw [decide_eq_true rfl] at hea
      have hec := fun w => eql_cm0 cm w
      have hez := fun w => eql_zero8 (a := zero8) rfl w
      rw [decide_eq_true rfl] at hez
      have hec0 := fun w => eql_cm0 zeroC w
      replace hec0 := fun w => (show (binOp .eql 32 (.agg #[.int .i64 zeroC.k, .int .i64 zeroC.c, .int .i64 zeroC.q, .string zeroC.key, .string zeroC.en, .string zeroC.old, .string zeroC.val]) (.agg #[.int .i64 0, .int .i64 0, .int .i64 0, .string ⟨#[]⟩, .string ⟨#[]⟩, .string ⟨#[]⟩, .string ⟨#[]⟩])).run Try.prog w = .ok (.bool true) w from hec0 w)
      have HEA := hide hea
      have HEC := hide hec
      have HEZ := hide hez
      have HEC0 := hide hec0
      clear hea hec hez hec0
      cases sm
      · replace HPC := hide (show Calls Try.prog 28 #[.int .i64 (k : Nat), .int .i64 (o : Nat), .slice (some ⟨gm, 0, none⟩) i cm2] wg fun e w' => e = .returned (.tuple #[.int .i64 4, .agg (rowC zeroC), .agg (cA zero8)]) ∧ Below wg.heap.size wg w' from HPC.out)
        go_upto_region 19 with (first
          | (go_at_call 28; go_loud ((with_reducible refine HPC.out.mono ?_); rintro e w7 ⟨rfl, hb⟩; replace HP := hide (HP.out.kept hb); have HN := hide (show Pq w7 ((w7.alloc (.cells #[.int .i64 0, .int .i64 0, .int .i64 0, .string ⟨#[]⟩, .string ⟨#[]⟩, .string ⟨#[]⟩, .string ⟨#[]⟩] 32)).alloc (.cells #[.int .i64 0, .int .i64 0, .int .i64 0, .int .i64 0, .int .i64 0, .int .i64 0, .int .i64 0, .int .i64 0] 26)) zeroC zero8 from Pq.start w7); clear hb))
          | ((with_reducible refine wpList_store_cm (y := zeroC) (z := zeroC) ?_ ?_ HN.out.c ?_); rfl; rfl; intro w8 hn hg; replace HN := hide (HN.out.putc hn hg); clear hn hg)
          | ((with_reducible refine wpList_store_at (y := zero8) (z := zero8) z88 ?_ ?_ HN.out.a rfl ?_); rfl; rfl; intro w9 hn hg; replace HN := hide (HN.out.puta hn hg); clear hn hg))
        replace HP := hide (HP.out.kept HN.out.low)
        have hez := HEZ.out
        have hec0 := HEC0.out
        go_wp2_with (first
          | ((with_reducible refine wpList_load_cm (y := zeroC) ?_ ?_ HN.out.c.cm_at ?_); rfl; rfl)
          | ((with_reducible refine wpList_load_at z88 ?_ ?_ HN.out.a.at8 ?_); rfl; rfl)
          | (go_at_call 3; (with_reducible refine (HRR.out _).mono ?_); rintro e wz ⟨rfl, hb⟩; replace HP := hide (HP.out.kept hb); clear hb))
        go_ret
        exact ⟨rfl, HP.out.low⟩
      · replace HPC := hide (show Calls Try.prog 28 #[.int .i64 (k : Nat), .int .i64 (o : Nat), .slice (some ⟨gm, 0, none⟩) i cm2] wg fun e w' => e = .returned (.tuple #[.int .i64 3, .agg (rowC cm), .agg (cA a)]) ∧ Below wg.heap.size wg w' from HPC.out)
        go_upto_region 19 with (first
          | (go_at_call 28; go_loud ((with_reducible refine HPC.out.mono ?_); rintro e w7 ⟨rfl, hb⟩; replace HP := hide (HP.out.kept hb); have HN := hide (show Pq w7 ((w7.alloc (.cells #[.int .i64 0, .int .i64 0, .int .i64 0, .string ⟨#[]⟩, .string ⟨#[]⟩, .string ⟨#[]⟩, .string ⟨#[]⟩] 32)).alloc (.cells #[.int .i64 0, .int .i64 0, .int .i64 0, .int .i64 0, .int .i64 0, .int .i64 0, .int .i64 0, .int .i64 0] 26)) zeroC zero8 from Pq.start w7); clear hb))
          | ((with_reducible refine wpList_store_cm (y := cm) (z := zeroC) ?_ ?_ HN.out.c ?_); rfl; rfl; intro w8 hn hg; replace HN := hide (HN.out.putc hn hg); clear hn hg)
          | ((with_reducible refine wpList_store_at (y := a) (z := zero8) h8 ?_ ?_ HN.out.a rfl ?_); rfl; rfl; intro w9 hn hg; replace HN := hide (HN.out.puta hn hg); clear hn hg))
        replace HP := hide (HP.out.kept HN.out.low)
        have hea := HEA.out
        have hec := HEC.out
        go_wp2_with (first
          | ((with_reducible refine wpList_load_cm (y := cm) ?_ ?_ HN.out.c.cm_at ?_); rfl; rfl)
          | ((with_reducible refine wpList_load_cm ?_ ?_ HP.out.c.cm_at ?_); rfl; rfl)
          | ((with_reducible refine wpList_load_at h8 ?_ ?_ HN.out.a.at8 ?_); rfl; rfl)
          | ((with_reducible refine wpList_load_at h8 ?_ ?_ HP.out.a.at8 ?_); rfl; rfl)
          | (go_at_call 3; (with_reducible refine (HRR.out _).mono ?_); rintro e wz ⟨rfl, hb⟩; replace HP := hide (HP.out.kept hb); clear hb))
        go_ret
        exact ⟨rfl, HP.out.low⟩
end Go.Proofs.Ytjkdccokiaejhaa
