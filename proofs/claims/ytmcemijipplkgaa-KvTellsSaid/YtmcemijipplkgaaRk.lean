/- What the document's Get and Delete come to. Conditions: the list lies in memory, its length has room. -/
import Derived.Test.YtmcemijipplkgaaRg
import Derived.Test.YtmcemijipplkgaaKv
import Derived.Deep.RegionHeld3
namespace Go.Proofs.Ytmcemijipplkgaa
open Go.RowKit
theorem rat_b (A : Option Addr) (n c : Nat) (l : List Pr) (key : ByteArray) (w : World) (hn : l.length = n) (hl : Prs w A l) (ln : n ≤ 4611686018427387904) :
    Calls Try.prog 27 #[.slice A n c, .string key] w fun e w' => e = .returned (foundV l key) ∧ Below w.heap.size w w' :=
  (rat_any A n c l key w hn hl ln).mono fun _ _ ⟨he, q, hq⟩ => ⟨he, by subst hq; exact kept_drewN (kept_refl w) q⟩
set_option maxRecDepth 100000 in
set_option maxHeartbeats 2000000 in
theorem rget_any (v : Value) (l : List Pr) (key : ByteArray) (w : World) (h : Pin w v l) (ln : l.length ≤ 4611686018427387904) :
    Calls Try.prog 18 #[v, .string key] w fun e w' => e = .returned (.tuple #[.agg #[.string (getP l key).k, .string (getP l key).v, .int .i64 (getP l key).n], .bool (isB l key)]) ∧ Below w.heap.size w w' := by
  obtain ⟨A, c, rfl, hA, hc, hcc, hl⟩ := h
  have HF := hide (fun w1 h1 => rat_b A l.length c l key w1 rfl h1 ln)
  have HL := hide hl
  clear hl
  obtain ⟨k, hk⟩ : ∃ k, st l key = k := ⟨_, rfl⟩
  obtain ⟨t, ht⟩ : ∃ t, isB l key = t := ⟨_, rfl⟩
  cases t
  · have e0 : foundV l key = .tuple #[.int .i64 (k : Nat), .bool false] := by unfold foundV; rw [hk, ht]
    rw [e0] at HF
    have hg := hide (getP_none ht)
    rw [hg.out, ht]
    clear e0 hk ht
    go_enter Try.func18, Try.ntmps18
    go_wp2_with (go_at_call 27; (with_reducible refine (HF.out _ ?_).mono ?_); first | (with_reducible exact HL.out) | (with_reducible exact HL.out.alloc _); rintro e w1 ⟨rfl, hb1⟩; obtain ⟨R, HB⟩ := fresh3 hb1; clear hb1; have HB := hide HB; obtain ⟨c0, c1, c2⟩ := R.three; obtain ⟨g0, g1, g2⟩ := R.frees; have R := hide R)
    exact bodyPost_ret (results_pair Try.results18 rfl rfl (R.out.put3 _ _ _)) rfl ⟨rfl, below_put3 HB.out (Nat.le_refl _) _ _ _⟩
  · have e0 : foundV l key = .tuple #[.int .i64 (k : Nat), .bool true] := by unfold foundV; rw [hk, ht]
    rw [e0] at HF
    obtain ⟨p, hp, -, hg, hlt⟩ := isB_some ht
    rw [hk] at hp hlt
    rw [hg, ht]
    have HP := hide hp
    clear e0 hk ht hg hp
    go_enter Try.func18, Try.ntmps18
    go_wp2_with (go_at_call 27; (with_reducible refine (HF.out _ ?_).mono ?_); first | (with_reducible exact HL.out) | (with_reducible exact HL.out.alloc _); rintro e w1 ⟨rfl, hb1⟩; obtain ⟨R, HB⟩ := fresh3 hb1; clear hb1; obtain ⟨b, o, rfl, hbs, d0, d1, d2⟩ := (HL.out.below HB).at_ HP.out; have HB := hide HB; obtain ⟨c0, c1, c2⟩ := R.three; obtain ⟨g0, g1, g2⟩ := R.frees; have R := hide R)
    exact bodyPost_ret (results_pair Try.results18 rfl rfl (R.out.put3 _ _ _)) rfl ⟨rfl, below_put3 HB.out (Nat.le_refl _) _ _ _⟩
theorem Mine.made {base : Nat} {w : World} (hb : base ≤ w.heap.size) : Mine base (w.alloc (.cells #[] 29)) (.slice (some ⟨w.heap.size, 0, none⟩) 0 0) [] := w.ownsRow_made #[] 0 hb (by unfold maxLen; omega) rfl
/-- append of pairs that lie onto own ones, as a step of a drawn region. -/
theorem step_append_mine {ops : Array Oper} {o : Oper} {a : Act} {K : Act → World → Prop} {Q : Exit → Act → World → Prop} {E : Prop} {w : World} (hgd : o.guard = none) (s x : Operand)
    (ho : o.op = .call { callee := .builtin .append, args := #[s, x], argTypes := #[22, 22] })
    {base : Nat} {v : Value} {l zs : List Pr} (hs : a.eval s = v) (hown : Mine base w v l) (A : Option Addr) (m c : Nat) (hx : a.eval x = .slice A m c) (hm : zs.length = m) (hc : A = none → c = 0) (hl : Prs w A zs) (hb : l.length + m ≤ 3518437208883) (hbase : base ≤ w.heap.size)
    (h : ∀ v' w', Mine base w' v' (l ++ zs) → w.grownBy w' v.ownBlock → K (a.put o.dst v') w') : if Region.wanted o (yielded ops a.tmps) = true then Oper.wp Try.prog o a w K Q else E := by
  obtain ⟨i0, hi, hz0, hz1, hz2⟩ := pair_parts
  refine step_append_els hgd s x 22 ho base 29 i0 _ 40 under_pairs hi hz0 hz1 hz2 (by omega) rfl v l.length (prV l) hs hown A m c (prV zs) hx (prV_all _) ((prV_len _).trans hm) hc hl (by omega) (by omega) hbase ?_
  intro v' w' h1 h2
  refine h v' w' ?_ h2
  unfold Mine
  rw [List.length_append, hm, prV_append]
  exact h1
set_option maxRecDepth 100000 in
set_option maxHeartbeats 2000000 in
theorem rdel_any (v : Value) (l : List Pr) (key : ByteArray) (w : World) (h : Pin w v l) (ln : l.length ≤ 3518437208780) :
    Calls Try.prog 20 #[v, .string key] w (Ans w (delP l key) (.bool (isB l key))) := by
  obtain ⟨A, c, rfl, hA, hc, hcc, hl⟩ := h
  have HF := hide (rat_b A l.length c l key w rfl hl (by omega))
  have HL := hide hl
  clear hl
  obtain ⟨k, hk⟩ : ∃ k, st l key = k := ⟨_, rfl⟩
  obtain ⟨t, ht⟩ : ∃ t, isB l key = t := ⟨_, rfl⟩
  cases t
  · have e0 : foundV l key = .tuple #[.int .i64 (k : Nat), .bool false] := by unfold foundV; rw [hk, ht]
    rw [e0] at HF
    have e1 : delP l key = l := by unfold delP; rw [ht]; simp
    rw [e1, ht]
    clear e0 e1 hk ht
    go_enter Try.func20, Try.ntmps20
    go_upto_region 3 with (go_at_call 27; (with_reducible refine HF.out.mono ?_); rintro e w1 ⟨rfl, hb1⟩; have HB := hide hb1; clear hb1)
    have OW := hide (Mine.made (base := w.heap.size) HB.out.size)
    have HL1 := hide ((HL.out.below HB.out).alloc (.cells #[] 29))
    have HB1 := hide (kept_alloc HB.out (.cells #[] 29))
    have hsz := HB1.out.size
    clear HL HF
    go_wp2_with (at_builtin; refine wpList_append_mine rfl (.tmp 16) (.tmp 17) rfl rfl OW.out _ l.length c rfl rfl hA HL1.out (by simp; omega) hsz ?_; intro v4 w4 ho4 hb4)
    go_ret2
    exact ⟨_, rfl, ho4, HB1.out.grown hb4 hsz (fun k hk => (OW.out.lt k hk))⟩
  · have e0 : foundV l key = .tuple #[.int .i64 (k : Nat), .bool true] := by unfold foundV; rw [hk, ht]
    rw [e0] at HF
    obtain ⟨p, hp, -, hg, hlt⟩ := isB_some ht
    rw [hk] at hp hlt
    obtain ⟨j, hj⟩ : ∃ j : Nat, j = k + 1 := ⟨_, rfl⟩
    have hjw : IntKind.i64.wrap ((k : Int) + 1) = (j : Int) := by rw [IntKind.wrap_i64]; omega
    have e1 : delP l key = l.take k ++ l.drop j := by unfold delP; rw [ht, hk, hj]; simp
    rw [e1, ht]
    clear e0 e1 hk ht hg hp
    have HK := hide (show (l.take k).length = k by rw [List.length_take]; omega)
    have HJ := hide (show (l.drop j).length = l.length - j by rw [List.length_drop])
    have hjl : j ≤ l.length := by omega
    have hjc : j ≤ c := by omega
    have hkl : k ≤ l.length := by omega
    have hkc : k ≤ c := by omega
    have HKJ := hide (show k + (l.length - j) ≤ 3518437208883 by omega)
    have HN := hide (fun h => partV_none (m := 3) (c := c) (i := j) hA h)
    clear hj
    have hpv : ∀ (A : Option Addr) (c : Nat), (if c = j then A else Option.map (fun x => x.add (j * 3)) A) = partV 3 A c j := fun _ _ => rfl
    go_enter Try.func20, Try.ntmps20
    go_upto_region 4 with (go_at_call 27; (with_reducible refine HF.out.mono ?_); rintro e w1 ⟨rfl, hb1⟩; have HB := hide hb1; clear hb1)
    have OW := hide (Mine.made (base := w.heap.size) (w := w1.drew) HB.out.size)
    have HL1 := hide ((HL.out.below HB.out).drew.alloc (.cells #[] 29))
    have HB1 := hide (kept_alloc HB.out.drew (.cells #[] 29))
    clear HF HB
    go_region_held3 (fun _ => True) (go_keep)
      (first
        | (refine step_append_mine rfl (.tmp 19) (.tmp 22) rfl rfl OW.out A k c rfl HK.out hA (HL1.out.take k) (by have := HKJ.out; simp; omega) HB1.out.size ?_; intro v4 w4 ho4 hb4; have OW4 := hide (show Mine w.heap.size w4 v4 (l.take k) from ho4); have HB4 := hide (HB1.out.grown hb4 HB1.out.size (fun k hk => (OW.out.lt k hk))); clear ho4 hb4)
        | (refine step_append_mine rfl (.tmp 23) (.tmp 27) rfl rfl OW4.out (partV 3 A c j) (l.length - j) (c - j) rfl HJ.out HN.out ((HL.out.below HB4.out).rest hc j) (by rw [HK.out]; exact HKJ.out) HB4.out.size ?_; intro v5 w5 ho5 hb5; have HO5 := hide ho5; have HB5 := hide (HB4.out.grown hb5 HB4.out.size (fun k hk => (OW4.out.lt k hk))); clear ho5 hb5))
    all_goals
      go_wp2
      go_ret2
      exact ⟨_, rfl, HO5.out, HB5.out⟩
end Go.Proofs.Ytmcemijipplkgaa
