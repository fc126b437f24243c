/- The program's Play. Conditions: the state's and the commands' lists lie in memory; the pairs rise; all is not much. -/
import Derived.Test.YtahfpncfkcfogaaGn
import Derived.LoopTactic
namespace Go.Proofs.Ytahfpncfkcfogaa
set_option maxRecDepth 100000
open Go.RowKit
/-- A state and replies are answered, in new memory. -/
def AnsP (w : World) (x : Sm × List Re) (e : Ending) (w' : World) : Prop :=
  ∃ p M v R, e = .returned (.tuple #[.agg (stc p M), v]) ∧ NewS w.heap.size w' p M x.1 ∧ Rps w.heap.size w' v R ∧ R.map Cr.r = x.2 ∧ Below w.heap.size w w'
/-- At the head of a round. -/
structure Pk (W w : World) (s : Sm) (rs : List Re) (v : Value) (p : Value) (M : List Co) (R : List Cr) : Prop where
  row : Row w W.heap.size 30 (stc p M)
  res : Row w (W.heap.size + 1) 30 (stc (.slice none 0 0) zeroL)
  st : NewS (W.heap.size + 1 + 1) w p M s
  rp : Rps (W.heap.size + 1 + 1) w v R
  is : R.map Cr.r = rs
  bel : Below W.heap.size W w
theorem Pk.below {W w w' : World} {s : Sm} {rs : List Re} {v p : Value} {M : List Co} {R : List Cr} (h : Pk W w s rs v p M R) (hb : Below w.heap.size w w') : Pk W w' s rs v p M R :=
  ⟨h.row.below hb h.row.lt, h.res.below hb h.res.lt, h.st.below hb, h.rp.below hb, h.is, h.bel.trans (hb.mono h.bel.size)⟩
theorem NewS.setRow {b g : Nat} {w : World} {p : Value} {M : List Co} {s : Sm} (h : NewS b w p M s) (hg : g < b) (cs : Array Value) : NewS b (w.setRow g cs) p M s := h.grownOff (setRow_grown w g cs) (h.offNew hg)
theorem Rps.setRow {b g : Nat} {w : World} {v : Value} {R : List Cr} (h : Rps b w v R) (hg : g < b) (cs : Array Value) : Rps b (w.setRow g cs) v R := h.apart (setRow_grown w g cs) hg
/-- The first store. -/
theorem T0.pk {W w w' : World} {p p' : Value} {L M : List Co} {s : Sm} (h : T0 W w p L) (hn : NewS w.heap.size w' p' M s) (hb : Below w.heap.size w w') :
    Pk W (w'.setRow W.heap.size (stc p' M)) s [] (.slice none 0 0) p' M [] := by
  have g2 := h.res.lt
  have g0 := h.row.lt
  exact ⟨(h.row.below hb g0).setRow _, (h.res.below hb g2).setRow_other (by omega) _, (hn.mono (by omega)).setRow (by omega) _, Rps.nil_ _ _, rfl, below_setRow (h.bel.trans (hb.mono (Nat.le_of_lt g0))) (Nat.le_refl _) _⟩
theorem Pk.done {W w : World} {s : Sm} {rs : List Re} {v p : Value} {M : List Co} {R : List Cr} (h : Pk W w s rs v p M R) : AnsP W (s, rs) (.returned (.tuple #[.agg (stc p M), v])) (w.setRow (W.heap.size + 1) (stc p M)) :=
  ⟨p, M, v, R, rfl, (h.st.setRow (by omega) _).mono (by omega), (h.rp.setRow (by omega) _).mono (by omega), h.is, below_setRow h.bel (by omega) _⟩
theorem results_sv {fn : Func} {tmps : Array Value} {w : World} {a b h : Nat} {t : TypeId} {p v : Value} {M : List Co} (hf : fn.results = #[.cell a 30, .tmp b]) (ht : tmps[a]? = some (.pointer (some ⟨h, 0, none⟩))) (hv : tmps.getD b undef = v) (hr : Row w h t (stc p M)) (hl : M.length = 8) :
    (results fn tmps).run Try.prog w = .ok (.tuple #[.agg (stc p M), v]) w := by
  have hld := run_loadVar_row w h t 30 (stc p M) (0, 0) _ hr under_state rfl (by rw [stc_size p hl]; exact info_state)
  subst hv
  simp only [results, hf]
  simp [asAddr, ht, hld]
/-- Behind Apply: the state and the reply in blocks of their own. -/
def paW (w : World) (p : Value) (M : List Co) (r : Re) (q : Value) : World :=
  (((((((w.alloc (.cells (stc (.slice none 0 0) zeroL) 30)).alloc (.cells #[.int .i64 0, .bool false, .string { data := #[] }, .int .i64 0, .slice none 0 0] 25)).setRow w.heap.size (stc p M)).setCell ⟨w.heap.size + 1, 0, none⟩ (.int .i64 r.why)).setCell ⟨w.heap.size + 1, 1, none⟩ (.bool r.fnd)).setCell ⟨w.heap.size + 1, 2, none⟩ (.string r.val)).setCell ⟨w.heap.size + 1, 3, none⟩ (.int .i64 r.ver)).setCell ⟨w.heap.size + 1, 4, none⟩ q
theorem pa_0 (w : World) : Row ((w.alloc (.cells (stc (.slice none 0 0) zeroL) 30)).alloc (.cells #[.int .i64 0, .bool false, .string { data := #[] }, .int .i64 0, .slice none 0 0] 25)) w.heap.size 30 (stc (.slice none 0 0) zeroL) ∧
    Row ((w.alloc (.cells (stc (.slice none 0 0) zeroL) 30)).alloc (.cells #[.int .i64 0, .bool false, .string { data := #[] }, .int .i64 0, .slice none 0 0] 25)) (w.heap.size + 1) 25 #[.int .i64 0, .bool false, .string { data := #[] }, .int .i64 0, .slice none 0 0] := by
  have r1 := Row.new (w.alloc (.cells (stc (.slice none 0 0) zeroL) 30)) 25 #[.int .i64 0, .bool false, .string { data := #[] }, .int .i64 0, .slice none 0 0]
  have hs : (w.alloc (.cells (stc (.slice none 0 0) zeroL) 30)).heap.size = w.heap.size + 1 := by simp
  rw [hs] at r1
  exact ⟨(Row.new w _ _).alloc _, r1⟩
theorem pa_1 (w : World) (p : Value) (M : List Co) (r : Re) (q : Value) : Row (paW w p M r q) w.heap.size 30 (stc p M) ∧ Row (paW w p M r q) (w.heap.size + 1) 25 (reV r q) ∧ Below w.heap.size w (paW w p M r q) := by
  have z := pa_0 w
  have b := kept_alloc (kept_alloc (kept_refl w) (.cells (stc (.slice none 0 0) zeroL) 30)) (.cells #[.int .i64 0, .bool false, .string { data := #[] }, .int .i64 0, .slice none 0 0] 25)
  unfold paW
  exact ⟨(((((z.1.setRow _).putOff (by omega) _).putOff (by omega) _).putOff (by omega) _).putOff (by omega) _).putOff (by omega) _, (z.2.setRow_other (by omega) _).five_put _ _ _ _ _, below_put5 (below_setRow b (Nat.le_refl _) _) (by omega) _ _ _ _ _⟩
/-- .. and in the round. -/
structure Pm (W w : World) (s : Sm) (r : Re) (p : Value) (M : List Co) (p' : Value) (M' : List Co) (q : Value) (g : Nat) : Prop where
  row : Row w W.heap.size 30 (stc p M)
  len : M.length = 8
  res : Row w (W.heap.size + 1) 30 (stc (.slice none 0 0) zeroL)
  r9 : Row w g 30 (stc p' M')
  r10 : Row w (g + 1) 25 (reV r q)
  st : NewS (W.heap.size + 1 + 1) w p' M' s
  hq : Mine (W.heap.size + 1 + 1) w q r.l
  ln : r.l.length ≤ 3518437208780
  bel : Below W.heap.size W w
  far : W.heap.size + 1 < g
section
variable {W w w' : World} {s : Sm} {r : Re} {p p' q v : Value} {M M' : List Co} {g : Nat} {R : List Cr} {rs : List Re}
theorem Pm.below (h : Pm W w s r p M p' M' q g) (hb : Below w.heap.size w w') : Pm W w' s r p M p' M' q g :=
  ⟨h.row.below hb h.row.lt, h.len, h.res.below hb h.res.lt, h.r9.below hb h.r9.lt, h.r10.below hb h.r10.lt, h.st.below hb, h.hq.below hb, h.ln, h.bel.trans (hb.mono h.bel.size), h.far⟩
theorem NewS.unlike {b : Nat} (h : NewS b w p M s) (hr : Rps b w v R) (hg : w.grownBy w' v.ownBlock) : NewS b w' p M s :=
  have key : ∀ {u : Value} {l : List Pr}, Mine b w u l → Mine b w' u l := fun {u l} hz => by
    unfold Mine at hz ⊢
    exact hz.kept hg (own_unlike (by decide) hz hr.row)
  ⟨key h.pin, h.room, h.eight, fun x hx => ⟨key (h.own x hx).1, (h.own x hx).2⟩, h.is⟩
theorem Pm.grown (h : Pm W w s r p M p' M' q g) (hr : Rps (W.heap.size + 1 + 1) w v R) (hlt : ∀ k, v.ownBlock = some k → k < g) (hg : w.grownBy w' v.ownBlock) : Pm W w' s r p M p' M' q g := by
  have f := h.far
  have n0 : some W.heap.size ≠ v.ownBlock := fun e => by have := (hr.blk _ e.symm).1; omega
  have n1 : some (W.heap.size + 1) ≠ v.ownBlock := fun e => by have := (hr.blk _ e.symm).1; omega
  have n2 : some g ≠ v.ownBlock := fun e => by have := hlt _ e.symm; omega
  have n3 : some (g + 1) ≠ v.ownBlock := fun e => by have := hlt _ e.symm; omega
  refine ⟨h.row.grown hg n0, h.len, h.res.grown hg n1, h.r9.grown hg n2, h.r10.grown hg n3, h.st.unlike hr hg, ?_, h.ln, ?_, f⟩
  · have hz := h.hq
    unfold Mine at hz ⊢
    exact hz.kept hg (own_unlike (by decide) hz hr.row)
  · exact h.bel.grown hg h.bel.size (fun k e => by have := (hr.blk k e).1; omega)
theorem Pm.pk (h : Pm W w s r p M p' M' q g) (hr : Rps (W.heap.size + 1 + 1) w v R) (hi : R.map Cr.r = rs) : Pk W (w.setRow W.heap.size (stc p' M')) s rs v p' M' R :=
  ⟨h.row.setRow _, h.res.setRow_other (by omega) _, h.st.setRow (by omega) _, hr.setRow (by omega) _, hi, below_setRow h.bel (Nat.le_refl _) _⟩
theorem Pk.pm (h : Pk W w s rs v p M R) {w5 w6 : World} {s' : Sm} (hb : Below w.heap.size w w5) (hn : NewS w5.heap.size w6 p' M' s') (hq : Mine w5.heap.size w6 q r.l) (ln : r.l.length ≤ 3518437208780) (hb6 : Below w5.heap.size w5 w6) :
    Pm W (paW w6 p' M' r q) s' r p M p' M' q w6.heap.size ∧ Rps (W.heap.size + 1 + 1) (paW w6 p' M' r q) v R ∧ (∀ k, v.ownBlock = some k → k < w6.heap.size) := by
  have g2 := h.res.lt
  have z := pa_1 w6 p' M' r q
  have k6 := kept_trans hb hb6
  have k7 := kept_trans k6 z.2.2
  have s5 := hb.size
  have s6 := hb6.size
  refine ⟨⟨h.row.below k7 h.row.lt, h.st.eight, h.res.below k7 g2, z.1, z.2.1, (hn.below z.2.2).mono (by omega), (hq.below z.2.2).mono (by omega), ln, h.bel.trans (k7.mono h.bel.size), by omega⟩, h.rp.below k7, fun k e => by have := (h.rp.blk k e).2; omega⟩
end
set_option maxHeartbeats 8000000 in
theorem play_any (p : Value) (L : List Co) (s : Sm) (A : Option Addr) (n cc : Nat) (cs : List Cm) (w : World) (h : IsS w p L s) (hc : CmL w A cs) (hn : cs.length = n) (hu : Up s.l) (ln : s.l.length + n ≤ 1000) :
    Calls Try.prog 11 #[.agg (stc p L), .slice A n cc] w (AnsP w (playP s cs)) := by
  have HS := hide h
  have H8 := hide h.fine.1
  have HC := hide hc
  have HU := hide hu
  have HNN := hide hn
  have HN := hide (T0.new w p L)
  clear h hc hu hn
  go_enter Try.func11, Try.ntmps11
  go_upto_region 1 with (fail)
  rw [zero_state]
  generalize (w.alloc (.cells (stc p L) 30)).alloc (.cells (stc (.slice none 0 0) zeroL) 30) = w1 at HN ⊢
  have HA := hide (sapart_any p L s w1 (HS.out.below HN.out.bel))
  have RS := hide HN.out.row
  go_upto_region 2 with (first
    | ((with_reducible refine wpList_load49 ?_ RS.out H8.out ?_); rfl)
    | (go_at_call 36; (with_reducible refine HA.out.mono ?_); rintro e w2 ⟨p2, M2, rfl, hn2, hb2⟩; have RS2 := hide (HN.out.row.below hb2 HN.out.row.lt); have H82 := hide hn2.eight; have H12 := hide hn2.one)
    | ((with_reducible refine wpList_store49 ?_ ?_ H12.out RS2.out H8.out H82.out ?_); rfl; rfl))
  have HP := hide (HN.out.pk hn2 hb2)
  clear hn2 hb2 HN HA RS RS2 H82 H12
  generalize w2.setRow w.heap.size (stc p2 M2) = w3 at HP ⊢
  go_wp2
  go_loopw [15, 6] (fun i v wr => ∃ (k : Nat) (p : Value) (M : List Co) (R : List Cr), k ≤ n ∧ i = .int .i64 k ∧ Hid (Pk w wr (playP s (cs.take k)).1 (playP s (cs.take k)).2 v p M R)) (fun i _ _ => n - (intOf i).toNat)
  case atStart => exact ⟨0, p2, M2, [], by omega, rfl, HP⟩
  case round =>
    obtain ⟨k, p, M, R, hk, rfl, HM⟩ := hrel
    by_cases hlt : k < n
    · obtain ⟨x, hx⟩ : ∃ x, cs[k]? = some x := ⟨_, List.getElem?_eq_getElem (by rw [HNN.out]; exact hlt)⟩
      have HNX := hide (play_next s hx)
      have HUK := hide (play_up (cs.take k) HU.out)
      have HRL := hide (playP_len (cs.take k) s)
      obtain ⟨y, hy⟩ : ∃ y, playP s (cs.take k) = y := ⟨_, rfl⟩
      rw [hy] at HM HNX HUK HRL
      clear hy
      obtain ⟨sk, rk⟩ := y
      dsimp only at HM HNX HUK HRL
      have hsk : sk.l.length ≤ 1000 := Nat.le_trans HUK.out.2 (by rw [List.length_take]; omega)
      have hRl : R.length ≤ 1000 := by
        have h1 := HRL.out
        have h2 := congrArg List.length HM.out.is
        rw [List.length_map] at h2
        rw [List.length_take] at h1
        omega
      obtain ⟨b, off, rfl, hbs, ca⟩ := (HC.out.below HM.out.bel).at_ hx
      have ca0 := ca.c0
      have ca1 := ca.c1
      have ca2 := ca.c2
      have ca3 := ca.c3
      have ca4 := ca.c4
      have ca5 := ca.c5
      have ca6 := ca.c6
      have hlt' : (k : Int) < (n : Int) := by omega
      clear ca hx
      go_upto_region 6 with (fail)
      have KB := hide (kept_alloc (kept_refl wr) (.cells #[.int .i64 x.k, .int .i64 x.c, .int .i64 x.q, .string x.key, .string x.en, .string x.old, .string x.val] 35))
      have RC := hide (Row.new wr 35 #[.int .i64 x.k, .int .i64 x.c, .int .i64 x.q, .string x.key, .string x.en, .string x.old, .string x.val])
      have HM2 := hide (HM.out.below KB.out)
      clear ca0 ca1 ca2 ca3 ca4 ca5 ca6 HM
      generalize wr.alloc (.cells #[.int .i64 x.k, .int .i64 x.c, .int .i64 x.q, .string x.key, .string x.en, .string x.old, .string x.val] 35) = w5 at KB RC HM2 ⊢
      generalize wr.heap.size = gc at RC ⊢
      obtain ⟨a0, a1, a2, a3, a4, a5, a6⟩ := (seven_of (x := x) RC.out).cells
      have HAP := hide (apply_any p M sk x w5 HM2.out.st.isS HUK.out.1 hsk)
      unfold valC at HAP
      have RS := hide HM2.out.row
      have H8M := hide HM2.out.st.eight
      go_upto_region 7 with (first
        | ((with_reducible refine wpList_load49 ?_ RS.out H8M.out ?_); rfl)
        | (go_at_call 16; (with_reducible refine HAP.out.mono ?_); rintro e w6 ⟨p6, M6, q6, rfl, hn6, hq6, hl6, _, hb6⟩; obtain ⟨A6, c6, rfl, _, _, _, _⟩ := hq6.pin; have H86 := hide hn6.eight; have H16 := hide hn6.one)
        | (rw [zero_state]; (with_reducible refine wpList_store49 ?_ ?_ H16.out (pa_0 _).1 (L := zeroL) rfl H86.out ?_); rfl; rfl; have ZR := (pa_0 w6).2.setRow_other (show w6.heap.size + 1 ≠ w6.heap.size by omega) (stc p6 M6); obtain ⟨z0, z1, z2, z3, z4⟩ := ZR.five; have y0 := ZR.free 0; have y1 := ZR.free 1; have y2 := ZR.free 2; have y3 := ZR.free 3; have y4 := ZR.free 4))
      have hw : ((((((((w6.alloc (.cells (stc (.slice none 0 0) zeroL) 30)).alloc (.cells #[.int .i64 0, .bool false, .string { data := #[] }, .int .i64 0, .slice none 0 0] 25)).setRow w6.heap.size (stc p6 M6)).setCell ⟨w6.heap.size + 1, 0, none⟩ (.int .i64 (applyP sk x).2.why)).setCell ⟨w6.heap.size + 1, 1, none⟩ (.bool (applyP sk x).2.fnd)).setCell ⟨w6.heap.size + 1, 2, none⟩ (.string (applyP sk x).2.val)).setCell ⟨w6.heap.size + 1, 3, none⟩ (.int .i64 (applyP sk x).2.ver)).setCell ⟨w6.heap.size + 1, 4, none⟩ (.slice A6 (applyP sk x).2.l.length c6)) = paW w6 p6 M6 (applyP sk x).2 (.slice A6 (applyP sk x).2.l.length c6) := rfl
      rw [hw]
      have HPM := hide (HM2.out.pm (r := (applyP sk x).2) (kept_refl w5) hn6 hq6 hl6 hb6)
      have GL := hide (show w.heap.size + 1 + 1 ≤ w5.heap.size from Nat.le_trans HM2.out.res.lt (Nat.le_refl _))
      have HIS := hide HM2.out.is
      clear hw hn6 hq6 hl6 hb6 z0 z1 z2 z3 z4 y0 y1 y2 y3 y4 ZR RS H8M HM2 RC KB a0 a1 a2 a3 a4 a5 a6 HAP
      generalize paW w6 p6 M6 (applyP sk x).2 (.slice A6 (applyP sk x).2.l.length c6) = w7 at HPM ⊢
      generalize w6.heap.size = g9 at HPM ⊢
      obtain ⟨y, hy⟩ : ∃ y, applyP sk x = y := ⟨_, rfl⟩
      rw [hy] at HPM HNX
      rw [hy]
      clear hy
      obtain ⟨sn, rn⟩ := y
      dsimp only at HPM HNX ⊢
      refine wp_region_noPanic ?_
      refine wp_region_T 6 (fun w' => Row w' g9 30 (stc p6 M6) ∧ Row w' (g9 + 1) 25 (reV rn (.slice A6 rn.l.length c6))) (by kernel_rfl) ?_
      have HD := hide (show Pm w (World.drew w7) sn rn p M p6 M6 (.slice A6 rn.l.length c6) g9 ∧ Rps (w.heap.size + 1 + 1) (World.drew w7) u6 R from ⟨HPM.out.1.below (kept_drewN (kept_refl w7) 1), HPM.out.2.1.below (kept_drewN (kept_refl w7) 1)⟩)
      generalize World.drew _ = wd at HD ⊢
      refine anyT_take (i := 0) (v := .agg (stc p6 M6)) (by simp only [List.getElem?_toArray, List.getElem?_cons_zero]; exact rfl) (by kernel_rfl) (by kernel_rfl) (fun _ _ _ h => h) (by kernel_rfl) (by kernel_rfl) (yields_load49 (x := .tmp 9) (by rfl) (by rfl) (by rfl) HD.out.1.st.eight (fun _ h => h.1)) (by with_reducible exact ⟨HD.out.1.r9, HD.out.1.r10⟩) ?_
      try simp only [Act.put, List.setIfInBounds_toArray, List.set_cons_zero, List.set_cons_succ]
      refine anyT_take (i := 1) (v := ?ov1_p) (by simp only [List.getElem?_toArray, List.getElem?_cons_succ, List.getElem?_cons_zero]; exact rfl) (by kernel_rfl) (by kernel_rfl) (fun _ _ _ h => h) (by kernel_rfl) (by kernel_rfl) (Or.inl ⟨by rfl, ?oy1_p⟩) (by with_reducible exact ⟨HD.out.1.r9, HD.out.1.r10⟩) ?or1_p
      case oy1_p => (intro w hSw; skip; go_simp; try with_reducible rfl)
      try simp only [Act.put, List.setIfInBounds_toArray, List.set_cons_zero, List.set_cons_succ]
      refine anyT_take (i := 2) (v := ?ov2_p) (by simp only [List.getElem?_toArray, List.getElem?_cons_succ, List.getElem?_cons_zero]; exact rfl) (by kernel_rfl) (by kernel_rfl) (fun _ _ _ h => h) (by kernel_rfl) (by kernel_rfl) (Or.inl ⟨by rfl, ?oy2_p⟩) (by with_reducible exact ⟨HD.out.1.r9, HD.out.1.r10⟩) ?or2_p
      case oy2_p => (intro w hSw; obtain ⟨e0, e1, e2, e3, e4⟩ := Row.five hSw.2; (try dsimp only at e0 e1 e2 e3 e4); go_simp; try with_reducible rfl)
      try simp only [Act.put, List.setIfInBounds_toArray, List.set_cons_zero, List.set_cons_succ]
      refine anyT_one (i := 3) (by kernel_rfl) (by simp only [List.getElem?_toArray, List.getElem?_cons_succ, List.getElem?_cons_zero]; exact rfl) (fun K hK => ?_)
      try go_simp
      have RB := hide (Row.new wd 25 #[.int .i64 rn.why, .bool rn.fnd, .string rn.val, .int .i64 rn.ver, .slice A6 rn.l.length c6])
      have kb := kept_alloc (kept_refl wd) (.cells #[.int .i64 rn.why, .bool rn.fnd, .string rn.val, .int .i64 rn.ver, .slice A6 rn.l.length c6] 25)
      have HE := hide (show Pm w (wd.alloc (.cells #[.int .i64 rn.why, .bool rn.fnd, .string rn.val, .int .i64 rn.ver, .slice A6 rn.l.length c6] 25)) sn rn p M p6 M6 (.slice A6 rn.l.length c6) g9 ∧ Rps (w.heap.size + 1 + 1) (wd.alloc (.cells #[.int .i64 rn.why, .bool rn.fnd, .string rn.val, .int .i64 rn.ver, .slice A6 rn.l.length c6] 25)) u6 R from ⟨HD.out.1.below kb, HD.out.2.below kb⟩)
      clear kb
      refine hK.out _ _ (fun e => ⟨HE.out.1.r9, HE.out.1.r10⟩) ?_
      clear hK K
      try simp only [Act.put, List.setIfInBounds_toArray, List.set_cons_zero, List.set_cons_succ]
      refine anyT_one (i := 4) (by kernel_rfl) (by simp only [List.getElem?_toArray, List.getElem?_cons_succ, List.getElem?_cons_zero]; exact rfl) (fun K hK => ?_)
      refine step_append_reply (y := ⟨rn, A6, c6⟩) rfl (.tmp 26) (.tmp 28) rfl (by rfl) HE.out.2 (by rfl) RB.out HE.out.1.hq HE.out.1.ln (by omega) HE.out.1.res.lt ?_
      intro v9 w9 hv9 hg9
      have HF := hide (show Pm w w9 sn rn p M p6 M6 (.slice A6 rn.l.length c6) g9 ∧ Rps (w.heap.size + 1 + 1) w9 v9 (R ++ [⟨rn, A6, c6⟩]) from ⟨HE.out.1.grown HE.out.2 HPM.out.2.2 hg9, hv9⟩)
      clear hv9 hg9
      refine hK.out _ _ (fun e => ⟨HF.out.1.r9, HF.out.1.r10⟩) ?_
      clear hK K
      try simp only [Act.put]
      refine anyT_one (i := 5) (by kernel_rfl) (by simp only [List.getElem?_toArray, List.getElem?_cons_succ, List.getElem?_cons_zero]; exact rfl) (fun K hK => ?_)
      refine step_store49 (L := M) (M := M6) (by rfl) (by rfl) HF.out.1.st.one HF.out.1.row HF.out.1.len HF.out.1.st.eight ?_
      refine hK.out _ _ (fun e => ⟨HF.out.1.r9.setRow_other (by have := HF.out.1.far; omega) _, HF.out.1.r10.setRow_other (by have := HF.out.1.far; omega) _⟩) ?_
      clear hK K
      try simp only [Act.put]
      refine anyT_one (i := 6) (by kernel_rfl) (by simp only [List.getElem?_toArray, List.getElem?_cons_succ, List.getElem?_cons_zero]; exact rfl) (fun K hK => ?_)
      try go_simp
      refine hK.out _ _ (fun e => absurd rfl e) ?_
      clear hK K
      refine anyT_done (by kernel_rfl) ?_
      refine NoPanic.normal ?_
      try simp only [Act.put]
      have HG := hide (HF.out.1.pk HF.out.2 (rs := rk ++ [rn]) (by rw [List.map_append, HIS.out]; rfl))
      generalize w9.setRow w.heap.size (stc p6 M6) = w10 at HG ⊢
      go_wp2_with fail
      go_roundw
      case rel => exact ⟨k + 1, p6, M6, _, by omega, by go_num, hide (by rw [HNX.out]; exact HG.out)⟩
      case measure => simp [intOf]; omega
    · obtain rfl : k = n := by omega
      have hnl : ¬ ((k : Int) < (k : Int)) := by omega
      rw [List.take_of_length_le (by rw [HNN.out]; exact Nat.le_refl _)] at HM
      have R0 := hide HM.out.row
      have R2 := hide HM.out.res
      have H8M := hide HM.out.st.eight
      have H1 := hide HM.out.st.one
      go_wp2_with (first | ((with_reducible refine wpList_load49 ?_ R0.out H8M.out ?_); rfl) | ((with_reducible refine wpList_store49 ?_ ?_ H1.out R2.out (L := zeroL) rfl H8M.out ?_); rfl; rfl))
      exact bodyPost_ret (results_sv Try.results11 rfl rfl (R2.out.setRow _) H8M.out) rfl HM.out.done
end Go.Proofs.Ytahfpncfkcfogaa
/- Chapter 13's run, in plain words. No condition: nothing here speaks of a program. -/
namespace Go.Proofs.Ytahfpncfkcfogaa
set_option maxRecDepth 100000
open Go.RowKit
def tA : ByteArray := { data := #[97] }
def tB : ByteArray := { data := #[98] }
def t1 : ByteArray := { data := #[49] }
def t2 : ByteArray := { data := #[50] }
def t3 : ByteArray := { data := #[51] }
def t9 : ByteArray := { data := #[57] }
def cm1 : Cm := ⟨2, 1, 1, tA, noT, noT, t1⟩
def cm3 : Cm := ⟨1, 2, 1, tA, noT, noT, noT⟩
def cm4 : Cm := ⟨2, 1, 0, tB, noT, noT, noT⟩
def cm5 : Cm := ⟨4, 1, 2, tA, noT, t1, t2⟩
def cm6 : Cm := ⟨4, 1, 3, tA, noT, t1, t3⟩
def cm7 : Cm := ⟨3, 1, 4, tA, noT, noT, noT⟩
def cm8 : Cm := ⟨2, 1, 2, tA, noT, noT, t9⟩
def cms8 : List Cm := [cm1, cm1, cm3, cm4, cm5, cm6, cm7, cm8]
def want8 : List Re := [⟨0, false, nilT, 1, []⟩, ⟨0, false, nilT, 1, []⟩, ⟨0, true, t1, 1, []⟩, ⟨1, false, nilT, 0, []⟩, ⟨0, true, t1, 2, []⟩, ⟨0, false, t2, 2, []⟩, ⟨0, true, nilT, 2, []⟩, ⟨9, false, nilT, 0, []⟩]
theorem nil_A : nilB tA = false := by unfold nilB tA; rw [ByteArray.toList_eq]; rfl
theorem nil_noT : nilB noT = true := by unfold nilB noT; rw [ByteArray.toList_eq]; rfl
theorem eq_refl8 (a : ByteArray) : eqB a a = true := (eq_iff _ _).2 rfl
theorem ne_12 : eqB t2 t1 = false := by unfold eqB t1 t2; rw [ByteArray.toList_eq, ByteArray.toList_eq]; decide
theorem eq_noA : eqB tA noT = false := by unfold eqB tA noT; rw [ByteArray.toList_eq, ByteArray.toList_eq]; decide
def r1 : Re := ⟨0, false, nilT, 1, []⟩
def s1 : Sm := ⟨[⟨tA, t1, 1⟩], [⟨1, r1⟩, zeroO, zeroO, zeroO, zeroO, zeroO, zeroO, zeroO]⟩
def s3 : Sm := ⟨[⟨tA, t1, 1⟩], [⟨1, r1⟩, ⟨1, ⟨0, true, t1, 1, []⟩⟩, zeroO, zeroO, zeroO, zeroO, zeroO, zeroO]⟩
def s5 : Sm := ⟨[⟨tA, t2, 2⟩], [⟨2, ⟨0, true, t1, 2, []⟩⟩, ⟨1, ⟨0, true, t1, 1, []⟩⟩, zeroO, zeroO, zeroO, zeroO, zeroO, zeroO]⟩
def s6 : Sm := ⟨[⟨tA, t2, 2⟩], [⟨3, ⟨0, false, t2, 2, []⟩⟩, ⟨1, ⟨0, true, t1, 1, []⟩⟩, zeroO, zeroO, zeroO, zeroO, zeroO, zeroO]⟩
def s7 : Sm := ⟨[], [⟨4, ⟨0, true, nilT, 2, []⟩⟩, ⟨1, ⟨0, true, t1, 1, []⟩⟩, zeroO, zeroO, zeroO, zeroO, zeroO, zeroO]⟩
theorem sz_A : tA.size = 1 := rfl
theorem sz_no : noT.size = 0 := rfl
theorem sz_1 : t1.size = 1 := rfl
theorem sz_2 : t2.size = 1 := rfl
theorem sz_3 : t3.size = 1 := rfl
theorem sz_9 : t9.size = 1 := rfl
theorem w1 : IntKind.i64.wrap 1 = 1 := by rw [IntKind.wrap_i64]; omega
theorem w2 : IntKind.i64.wrap 2 = 2 := by rw [IntKind.wrap_i64]; omega
theorem has_1 (v : ByteArray) (n : Int) : st [⟨tA, v, n⟩] tA = 0 ∧ isB [⟨tA, v, n⟩] tA = true ∧ getP [⟨tA, v, n⟩] tA = ⟨tA, v, n⟩ := by
  refine ⟨?_, ?_, ?_⟩ <;> simp [getP, isB, st, lt_self, eq_refl8]
theorem has_0 : st [] tA = 0 ∧ isB [] tA = false ∧ getP [] tA = zeroP := ⟨rfl, rfl, rfl⟩
theorem ok_1 : rightC cm1 = true ∧ sameC cm1 c_zeroC = false := by
  exact ⟨by simp [rightC, sameC, namedC, boundC, cm1, nil_A, eq_refl8, sz_A, sz_no, sz_1], rfl⟩
theorem ok_3 : rightC cm3 = true ∧ sameC cm3 c_zeroC = false := by
  exact ⟨by simp [rightC, sameC, namedC, boundC, cm3, nil_A, eq_refl8, sz_A, sz_no], rfl⟩
theorem ok_4 : rightC cm4 = false ∧ sameC cm4 c_zeroC = false := by
  exact ⟨by simp [rightC, boundC, cm4], rfl⟩
theorem ok_5 : rightC cm5 = true ∧ sameC cm5 c_zeroC = false := by
  exact ⟨by simp [rightC, sameC, namedC, boundC, cm5, nil_A, eq_refl8, sz_A, sz_no, sz_1, sz_2], rfl⟩
theorem ok_6 : rightC cm6 = true ∧ sameC cm6 c_zeroC = false := by
  exact ⟨by simp [rightC, sameC, namedC, boundC, cm6, nil_A, eq_refl8, sz_A, sz_no, sz_1, sz_3], rfl⟩
theorem ok_7 : rightC cm7 = true ∧ sameC cm7 c_zeroC = false := by
  exact ⟨by simp [rightC, sameC, namedC, boundC, cm7, nil_A, eq_refl8, sz_A, sz_no], rfl⟩
theorem ok_8 : rightC cm8 = true ∧ sameC cm8 c_zeroC = false := by
  exact ⟨by simp [rightC, sameC, namedC, boundC, cm8, nil_A, eq_refl8, sz_A, sz_no, sz_9], rfl⟩
theorem go_1 : applyP zeroS cm1 = (s1, r1) := by
  rw [apply_new ok_1.1 ok_1.2 (k := 0) (o := zeroO) rfl rfl (by decide)]
  have e : runP zeroS.l cm1 = ([⟨tA, t1, 1⟩], r1) := by
    unfold cm1
    rw [run_2]
    simp [zeroS, fullB, has_0, putP, behP, verP, zeroP, r1, w1]
  rw [e]; rfl
theorem go_2 : applyP s1 cm1 = (s1, r1) := by
  have := (apply_again (s := zeroS) rfl cm1)
  rw [go_1] at this
  exact Prod.ext this.1 (this.2 ok_1.1 ok_1.2 (by decide))
theorem go_3 : applyP s1 cm3 = (s3, ⟨0, true, t1, 1, []⟩) := by
  rw [apply_new ok_3.1 ok_3.2 (k := 1) (o := zeroO) rfl rfl (by decide)]
  have e : runP s1.l cm3 = ([⟨tA, t1, 1⟩], ⟨0, true, t1, 1, []⟩) := by
    unfold cm3
    rw [run_1]
    simp [s1, has_1]
  rw [e]; rfl
theorem go_4 : applyP s3 cm4 = (s3, errR 1) := apply_bad ok_4.2 ok_4.1
theorem go_5 : applyP s3 cm5 = (s5, ⟨0, true, t1, 2, []⟩) := by
  rw [apply_new ok_5.1 ok_5.2 (k := 0) (o := ⟨1, r1⟩) rfl rfl (by decide)]
  have e : runP s3.l cm5 = ([⟨tA, t2, 2⟩], ⟨0, true, t1, 2, []⟩) := by
    unfold cm5
    rw [run_4]
    simp [s3, has_1, eq_refl8, putP, behP, verP, w2]
  rw [e]; rfl
theorem go_6 : applyP s5 cm6 = (s6, ⟨0, false, t2, 2, []⟩) := by
  rw [apply_new ok_6.1 ok_6.2 (k := 0) (o := ⟨2, ⟨0, true, t1, 2, []⟩⟩) rfl rfl (by decide)]
  have e : runP s5.l cm6 = ([⟨tA, t2, 2⟩], ⟨0, false, t2, 2, []⟩) := by
    unfold cm6
    rw [run_4]
    simp [s5, has_1, ne_12]
  rw [e]; rfl
theorem go_7 : applyP s6 cm7 = (s7, ⟨0, true, nilT, 2, []⟩) := by
  rw [apply_new ok_7.1 ok_7.2 (k := 0) (o := ⟨3, ⟨0, false, t2, 2, []⟩⟩) rfl rfl (by decide)]
  have e : runP s6.l cm7 = ([], ⟨0, true, nilT, 2, []⟩) := by
    unfold cm7
    rw [run_3]
    simp [s6, has_1, delP]
  rw [e]; rfl
theorem go_8 : applyP s7 cm8 = (s7, errR 9) := by
  rw [apply_at ok_8.2 ok_8.1]
  have e : lookO s7.o cm8.c cm8.q = (3, zeroR) := by
    unfold lookO
    rw [if_pos (by decide)]
    exact seen3 (by decide)
  rw [e, if_neg (by decide), if_pos rfl]
theorem play_8 : (playP zeroS cms8).2 = want8 := by
  unfold cms8
  simp only [playP, go_1, go_2, go_3, go_4, go_5, go_6, go_7, go_8]
  rfl
end Go.Proofs.Ytahfpncfkcfogaa
