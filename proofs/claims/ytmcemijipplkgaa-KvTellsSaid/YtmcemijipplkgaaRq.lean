/- What the document's Put comes to. Conditions: the list lies in memory, its length has room. -/
import Derived.Test.YtmcemijipplkgaaRk
namespace Go.Proofs.Ytmcemijipplkgaa
open Go.RowKit
theorem Mine.made_at {base g : Nat} {w : World} (hg : w.heap.size = g) (hb : base ≤ g) : Mine base (w.alloc (.cells #[] 29)) (.slice (some ⟨g, 0, none⟩) 0 0) [] := by subst hg; exact Mine.made hb
theorem Mine.alloc {base : Nat} {w : World} {v : Value} {l : List Pr} (h : Mine base w v l) (o : Obj) : Mine base (w.alloc o) v l := h.below (kept_alloc (kept_refl w) o)
theorem prs_at {w : World} {g : Nat} (hg : w.heap.size = g) (p : Pr) : Prs (w.alloc (.cells #[.string p.k, .string p.v, .int .i64 p.n] 29)) (some ⟨g, 0, none⟩) [p] := by subst hg; exact prs_one w p _
theorem Prs.off {w w' : World} {g h n c : Nat} {l : List Pr} (hp : Prs w (some ⟨g, 0, none⟩) l) (hg : w.grownBy w' (Value.slice (some ⟨h, 0, none⟩) n c).ownBlock) (hne : g ≠ h) : Prs w' (some ⟨g, 0, none⟩) l := hp.grown hg (fun a e => by cases e; simp [Value.ownBlock]; exact hne)
set_option maxRecDepth 100000 in
set_option maxHeartbeats 4000000 in
theorem rput_new (v : Value) (l : List Pr) (key value : ByteArray) (w : World) (h : Pin w v l) (ln : l.length ≤ 3518437208780) (ht : isB l key = false) :
    Calls Try.prog 19 #[v, .string key, .string value] w (Ans w (putL l key value) (.int .i64 (putE l key))) := by
  obtain ⟨A, c, rfl, hA, hc, hcc, hl⟩ := h
  by_cases hf : 32 ≤ l.length
  · have e1 : putL l key value = [] := by unfold putL fullB; rw [ht]; simp [hf]
    have e2 : putE l key = 7 := by unfold putE fullB; rw [ht]; simp [hf]
    rw [e1, e2]
    have HF := hide (rat_b A l.length c l key w rfl hl (by omega))
    obtain ⟨k, hk⟩ : ∃ k, st l key = k := ⟨_, rfl⟩
    have e0 : foundV l key = .tuple #[.int .i64 (k : Nat), .bool false] := by unfold foundV; rw [hk, ht]
    rw [e0] at HF
    clear e0 e1 e2 hk ht hl
    have hf2 : decide ((32 : Int) ≤ (l.length : Int)) = true := decide_eq_true (by omega)
    go_enter Try.func19, Try.ntmps19
    go_wp2_with (go_at_call 27; (with_reducible refine HF.out.mono ?_); rintro e w0 ⟨rfl, hb1⟩)
    go_ret2
    exact ⟨_, rfl, Mine.nil_ _ _, hb1⟩
  · have HF := hide (rat_b A l.length c l key w rfl hl (by omega))
    have HL := hide hl
    clear hl
    obtain ⟨k, hk⟩ : ∃ k, st l key = k := ⟨_, rfl⟩
    have e0 : foundV l key = .tuple #[.int .i64 (k : Nat), .bool false] := by unfold foundV; rw [hk, ht]
    rw [e0] at HF
    have hkl := st_le l key
    rw [hk] at hkl
    have e1 : putL l key value = l.take k ++ (⟨key, value, 1⟩ :: l.drop k) := by unfold putL fullB putP verP behP; rw [ht, hk]; simp [hf]
    have e2 : putE l key = 0 := by unfold putE fullB; rw [ht]; simp [hf]
    rw [e1, e2]
    clear e0 e1 e2 hk ht
    have hkc : k ≤ c := by omega
    have hf2 : decide ((32 : Int) ≤ (l.length : Int)) = false := decide_eq_false (by omega)
    have hpv : ∀ (A : Option Addr) (c : Nat), (if c = k then A else Option.map (fun x => x.add (k * 3)) A) = partV 3 A c k := fun _ _ => rfl
    have HK := hide (show (l.take k).length = k by rw [List.length_take]; omega)
    have HJ := hide (show (l.drop k).length = l.length - k by rw [List.length_drop])
    have HS := hide (show l.length < 32 by omega)
    have HKL := hide hkl
    have HN := hide (fun h => partV_none (m := 3) (c := c) (i := k) hA h)
    go_enter Try.func19, Try.ntmps19
    go_upto_region 9 with (first
      | (go_at_call 27; (with_reducible refine HF.out.mono ?_); rintro e w0 ⟨rfl, hb1⟩; have HB := hide hb1; clear hb1)
      | (at_builtin; refine wpList_append_mine rfl (.tmp 24) (.tmp 25) rfl rfl (Mine.made (base := w.heap.size) HB.out.size) A l.length c rfl rfl hA (HL.out.below (kept_alloc HB.out _)) (by have := HS.out; simp; omega) (kept_alloc HB.out _).size ?_; intro v1 w1 ho1 hb1; have HB0 := hide ((kept_alloc HB.out (.cells #[] 29)).grown hb1 (kept_alloc HB.out _).size (fun k hk => by cases hk; exact HB.out.size)); clear ho1 hb1))
    replace HB0 := hide HB0.out.drew
    clear HF HB
    go_region_held3 (fun _ => True) (go_keep)
      (first
        | (refine step_append_mine rfl (.tmp 42) (.tmp 45) rfl rfl (Mine.made_at (w := w1.drew) (by rfl) HB0.out.size) A k c rfl HK.out hA ((HL.out.below (kept_alloc HB0.out (.cells #[] 29))).take k) (by have := HKL.out; have := HS.out; simp; omega) (Below.size (kept_alloc HB0.out (.cells #[] 29))) ?_; intro v4 w4 ho4 hb4; have OW4 := hide (show Mine w.heap.size w4 v4 (l.take k) from ho4); have HB4 := hide (Below.grown (kept_alloc HB0.out (.cells #[] 29)) hb4 (Below.size (kept_alloc HB0.out (.cells #[] 29))) (fun k hk => by cases hk; first | exact HB0.out.size | exact Nat.le_succ_of_le HB0.out.size)); clear ho4 hb4)
        | (refine step_append_mine rfl (.tmp 42) (.tmp 45) rfl rfl ((Mine.made_at (w := w1.drew) (by rfl) HB0.out.size).alloc (.cells #[.string key, .string value, .int .i64 1] 29)) A k c rfl HK.out hA ((HL.out.below (kept_alloc (kept_alloc HB0.out (.cells #[] 29)) (.cells #[.string key, .string value, .int .i64 1] 29))).take k) (by have := HKL.out; have := HS.out; simp; omega) (Below.size (kept_alloc (kept_alloc HB0.out (.cells #[] 29)) (.cells #[.string key, .string value, .int .i64 1] 29))) ?_; intro v4 w4 ho4 hb4; have OW4 := hide (show Mine w.heap.size w4 v4 (l.take k) from ho4); have HB4 := hide (Below.grown (kept_alloc (kept_alloc HB0.out (.cells #[] 29)) (.cells #[.string key, .string value, .int .i64 1] 29)) hb4 (Below.size (kept_alloc (kept_alloc HB0.out (.cells #[] 29)) (.cells #[.string key, .string value, .int .i64 1] 29))) (fun k hk => by cases hk; first | exact HB0.out.size | exact Nat.le_succ_of_le HB0.out.size)); have PO4 := hide (Prs.off (prs_at (w := w1.drew.alloc (.cells #[] 29)) (by simp; rfl) ⟨key, value, 1⟩) hb4 (by simp)); clear ho4 hb4)
        | (refine step_append_mine rfl (.tmp 42) (.tmp 45) rfl rfl (Mine.made_at (w := w1.drew.alloc (.cells #[.string key, .string value, .int .i64 1] 29)) (g := w1.heap.size + 1) (by simp) (Nat.le_succ_of_le HB0.out.size)) A k c rfl HK.out hA ((HL.out.below (kept_alloc (kept_alloc HB0.out (.cells #[.string key, .string value, .int .i64 1] 29)) (.cells #[] 29))).take k) (by have := HKL.out; have := HS.out; simp; omega) (Below.size (kept_alloc (kept_alloc HB0.out (.cells #[.string key, .string value, .int .i64 1] 29)) (.cells #[] 29))) ?_; intro v4 w4 ho4 hb4; have OW4 := hide (show Mine w.heap.size w4 v4 (l.take k) from ho4); have HB4 := hide (Below.grown (kept_alloc (kept_alloc HB0.out (.cells #[.string key, .string value, .int .i64 1] 29)) (.cells #[] 29)) hb4 (Below.size (kept_alloc (kept_alloc HB0.out (.cells #[.string key, .string value, .int .i64 1] 29)) (.cells #[] 29))) (fun k hk => by cases hk; first | exact HB0.out.size | exact Nat.le_succ_of_le HB0.out.size)); have PO4 := hide (Prs.off ((prs_at (w := w1.drew) (by rfl) ⟨key, value, 1⟩).alloc (.cells #[] 29)) hb4 (by simp)); clear ho4 hb4)
        | (refine step_append_mine rfl (.tmp 46) (.tmp 50) rfl rfl (OW4.out.alloc (.cells #[.string key, .string value, .int .i64 1] 29)) _ 1 1 rfl (zs := [⟨key, value, 1⟩]) rfl (fun h => by cases h) (prs_at (w := w4) (by rfl) ⟨key, value, 1⟩) (by rw [HK.out]; have := HKL.out; have := HS.out; omega) (Below.size (kept_alloc HB4.out (.cells #[.string key, .string value, .int .i64 1] 29))) ?_; intro v5 w5 ho5 hb5; have OW5 := hide ho5; have HB5 := hide (Below.grown (kept_alloc HB4.out (.cells #[.string key, .string value, .int .i64 1] 29)) hb5 (Below.size (kept_alloc HB4.out (.cells #[.string key, .string value, .int .i64 1] 29))) (fun k hk => (OW4.out.lt k hk))); clear ho5 hb5)
        | (refine step_append_mine rfl (.tmp 46) (.tmp 50) rfl rfl (OW4.out) _ 1 1 rfl (zs := [⟨key, value, 1⟩]) rfl (fun h => by cases h) (PO4.out) (by rw [HK.out]; have := HKL.out; have := HS.out; omega) (Below.size (HB4.out)) ?_; intro v5 w5 ho5 hb5; have OW5 := hide ho5; have HB5 := hide (Below.grown (HB4.out) hb5 (Below.size (HB4.out)) (fun k hk => (OW4.out.lt k hk))); clear ho5 hb5)
        | (refine step_append_mine rfl (.tmp 51) (.tmp 54) rfl rfl OW5.out (partV 3 A c k) (l.length - k) (c - k) rfl HJ.out HN.out ((HL.out.below HB5.out).rest hc k) (by rw [List.length_append, HK.out]; have := HKL.out; have := HS.out; simp; omega) HB5.out.size ?_; intro v6 w6 ho6 hb6; have HO6 := hide ho6; have HB6 := hide (HB5.out.grown hb6 HB5.out.size (fun k hk => (OW5.out.lt k hk))); clear ho6 hb6))
    all_goals
      go_wp2
      go_ret2
      refine ⟨_, rfl, ?_, HB6.out⟩
      have := HO6.out
      rw [List.append_assoc] at this
      exact this
theorem prV_set {l : List Pr} {k : Nat} {p q : Pr} (hp : l[k]? = some p) (hk : q.k = p.k) : ((cellsV (prV l)).set (k * 3 + 1) (.string q.v)).set (k * 3 + 2) (.int .i64 q.n) = cellsV (prV (l.set k q)) := by
  have hlt : k < l.length := by
    rcases Nat.lt_or_ge k l.length with h1 | h1
    · exact h1
    · rw [List.getElem?_eq_none h1] at hp; cases hp
  rw [List.getElem?_eq_getElem hlt] at hp
  injection hp with hp
  have e : l = l.take k ++ (p :: l.drop (k + 1)) := by rw [← hp, ← List.drop_eq_getElem_cons hlt, List.take_append_drop]
  have e2 : l.set k q = l.take k ++ (q :: l.drop (k + 1)) := by rw [List.set_eq_take_append_cons_drop, if_pos hlt]
  have hl : (cellsV (prV (l.take k))).length = k * 3 := by rw [length_cellsV (prV_all _), prV_len, List.length_take, Nat.min_eq_left (by omega)]
  have e3 : cellsV (prV l) = cellsV (prV (l.take k)) ++ (p.l ++ cellsV (prV (l.drop (k + 1)))) := by
    conv => lhs; rw [e]
    rw [prV_append, cellsV_append]; rfl
  have e4 : cellsV (prV (l.set k q)) = cellsV (prV (l.take k)) ++ (q.l ++ cellsV (prV (l.drop (k + 1)))) := by
    rw [e2, prV_append, cellsV_append]; rfl
  rw [e3, e4, List.set_append_right _ _ (by omega), List.set_append_right _ _ (by omega), hl, show k * 3 + 1 - k * 3 = 1 by omega, show k * 3 + 2 - k * 3 = 2 by omega]
  simp [Pr.l, hk]
theorem Mine.cells {base n c : Nat} {A : Option Addr} {w : World} {l : List Pr} {k : Nat} {p : Pr} (h : Mine base w (.slice A n c) l) (hp : l[k]? = some p) :
    ∃ g, A = some ⟨g, 0, none⟩ ∧ base ≤ g ∧ w.cell? ⟨g, k * 3, none⟩ = some (.string p.k) ∧ w.cell? ⟨g, k * 3 + 1, none⟩ = some (.string p.v) ∧ w.cell? ⟨g, k * 3 + 2, none⟩ = some (.int .i64 p.n) ∧ (w.frozen? ⟨g, k * 3, none⟩ = false ∧ w.frozen? ⟨g, k * 3 + 1, none⟩ = false ∧ w.frozen? ⟨g, k * 3 + 2, none⟩ = false) := by
  obtain ⟨A', c', e, _, _, _, hl⟩ := h.pin
  injection e with e1 e2 e3
  subst e1 e2 e3
  obtain ⟨b, o, rfl, hbs, d0, d1, d2⟩ := hl.at_ hp
  rcases h.2 with ⟨e, _⟩ | ⟨g', cap, cur, e, hb, _⟩
  · cases e
  · injection e with e _ _
    injection e with e
    injection e with e1 e2 _
    subst e1 e2
    rw [Nat.zero_add] at d0 d1 d2
    exact ⟨_, rfl, hb, d0, d1, d2, World.ownsRow.frozenAt h _, World.ownsRow.frozenAt h _, World.ownsRow.frozenAt h _⟩
/-- Two cells of a made list's pair are stored. -/
theorem Mine.put {base g n c : Nat} {w : World} {l : List Pr} {k : Nat} {p q : Pr} (h : Mine base w (.slice (some ⟨g, 0, none⟩) n c) l) (hp : l[k]? = some p) (hk : q.k = p.k) :
    Mine base ((w.setCell ⟨g, k * 3 + 1, none⟩ (.string q.v)).setCell ⟨g, k * 3 + 2, none⟩ (.int .i64 q.n)) (.slice (some ⟨g, 0, none⟩) n c) (l.set k q) := by
  have hn : l.length = n := by
    have := h.2
    rcases this with ⟨e, _⟩ | ⟨g', cap, cur, e, _⟩
    · cases e
    · injection e with _ e; exact e.symm
  unfold Mine at h ⊢
  rw [List.length_set, ← prV_set hp hk]
  rw [hn] at h ⊢
  exact (World.ownsRow.stored (World.ownsRow.stored h (k * 3 + 1) (.string q.v)).1 (k * 3 + 2) (.int .i64 q.n)).1
set_option maxRecDepth 100000 in
set_option maxHeartbeats 4000000 in
theorem rput_old (v : Value) (l : List Pr) (key value : ByteArray) (w : World) (h : Pin w v l) (ln : l.length ≤ 3518437208780) (ht : isB l key = true) :
    Calls Try.prog 19 #[v, .string key, .string value] w (Ans w (putL l key value) (.int .i64 (putE l key))) := by
  obtain ⟨A, c, rfl, hA, hc, hcc, hl⟩ := h
  have HF := hide (rat_b A l.length c l key w rfl hl (by omega))
  have HL := hide hl
  clear hl
  obtain ⟨k, hk⟩ : ∃ k, st l key = k := ⟨_, rfl⟩
  have e0 : foundV l key = .tuple #[.int .i64 (k : Nat), .bool true] := by unfold foundV; rw [hk, ht]
  rw [e0] at HF
  obtain ⟨p, hp, hpk, hg, hlt⟩ := isB_some ht
  rw [hk] at hp hlt
  have e1 : putL l key value = l.set k ⟨key, value, IntKind.i64.wrap (p.n + 1)⟩ := by
    unfold putL fullB putP verP behP
    rw [ht, hk, hg]
    simp only [Bool.not_true, Bool.false_and, Bool.false_eq_true, if_false, if_true]
    rw [List.set_eq_take_append_cons_drop, if_pos hlt]
  have e2 : putE l key = 0 := by unfold putE fullB; rw [ht]; simp
  rw [e1, e2]
  clear e0 e1 e2 hk ht hg
  have HP := hide hp
  have HPK := hide (show (⟨key, value, IntKind.i64.wrap (p.n + 1)⟩ : Pr).k = p.k from hpk.symm)
  clear hp hpk
  obtain ⟨V, hV⟩ : ∃ V, IntKind.i64.wrap (p.n + 1) = V := ⟨_, rfl⟩
  rw [hV] at HPK ⊢
  go_enter Try.func19, Try.ntmps19
  go_upto_region 6 with (first
      | (go_at_call 27; (with_reducible refine HF.out.mono ?_); rintro e w0 ⟨rfl, hb1⟩; have HB := hide hb1; clear hb1)
      | (at_builtin; refine wpList_append_mine rfl (.tmp 24) (.tmp 25) rfl rfl (Mine.made (base := w.heap.size) HB.out.size) A l.length c rfl rfl hA (HL.out.below (kept_alloc HB.out _)) (by simp; omega) (kept_alloc HB.out _).size ?_; intro v1 w1 ho1 hb1; have HO := hide (show Mine w.heap.size w1 v1 l from ho1); have HB0 := hide ((kept_alloc HB.out (.cells #[] 29)).grown hb1 (kept_alloc HB.out _).size (fun k hk => by cases hk; exact HB.out.size)); clear ho1 hb1))
  obtain ⟨A1, c1, rfl, -, hc1, hcm, -⟩ := own_form HO.out
  obtain ⟨g, rfl, hbg, d0, d1, d2, f0, f1, f2⟩ := HO.out.cells HP.out
  have HM := hide (HO.out.put (q := ⟨key, value, V⟩) HP.out HPK.out)
  have HB2 := hide ((HB0.out.setCell (p := ⟨g, k * 3 + 1, none⟩) hbg (.string value)).setCell (p := ⟨g, k * 3 + 2, none⟩) hbg (.int .i64 V))
  clear HO HB0 HL HF HB HP HPK
  unfold maxLen at hcm
  go_wp2
  go_ret2
  exact ⟨_, rfl, HM.out, HB2.out⟩
theorem rput_any (v : Value) (l : List Pr) (key value : ByteArray) (w : World) (h : Pin w v l) (ln : l.length ≤ 3518437208780) :
    Calls Try.prog 19 #[v, .string key, .string value] w (Ans w (putL l key value) (.int .i64 (putE l key))) := by
  cases ht : isB l key
  · exact rput_new v l key value w h ln ht
  · exact rput_old v l key value w h ln ht
end Go.Proofs.Ytmcemijipplkgaa
