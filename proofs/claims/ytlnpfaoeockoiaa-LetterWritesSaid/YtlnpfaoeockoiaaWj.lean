/- The program's read: a letter's fields behind From and To. Stores of one cell into a letter's block. Conditions: the reader lies in memory as it must. -/
import Derived.Test.YtlnpfaoeockoiaaWi
namespace Go.Proofs.Ytlnpfaoeockoiaa
set_option maxRecDepth 100000
open Go.RowKit
/-- What stands behind From and To. -/
def dRest (k f t : Int) (zs : List Int) (j : Nat) : Rdm Lt :=
  bnd (dOpt (nmI k) (0, 0) (dBal zs j) j) fun i j => bnd (dOpt (nmB k) (0, 0) (dBal zs j) j) fun b j => bnd (dOpt (nmC k) zeroC (dCm zs j) j) fun c j => bnd (dOpt (nmA k) zero8 (dAt zs j) j) fun a j =>
  bnd (dOpt (nmX k) zeroCl (dCl zs j) j) fun x j => bnd (dOpt (nmD k) zero7 (dNums zs 7 j) j) fun d j => bnd (dOpt (nmZ k) noT (dTxt zs 16384 j) j) fun z j => .ok (⟨k, f, t, i, b, c, a, x, d, z⟩, j)
theorem dLt0_eq (zs : List Int) (i : Nat) : dLt0 zs i = bnd (dKind zs i) fun h j => dRest h.1 h.2.1 h.2.2 zs j := rfl
theorem got_opt {α : Type} {b : Bool} {z v : α} {d : Rdm α} {i i' : Nat} {e e' : Int} (hb : b = true) (h : Got d e v i' e') : Got (dOpt b z d i) e v i' e' := by subst hb; exact h
theorem got_none {α : Type} {b : Bool} {z : α} {d : Rdm α} {i : Nat} {e : Int} (hb : b = false) : Got (dOpt b z d i) e z i e := by subst hb; exact Got.ok _ _ _
/-! ### Slots, one by one -/
theorem valsN_len (zs : List Int) : ∀ (n i : Nat) (e : Int), (valsN zs i e n).length = n
  | 0, _, _ => rfl
  | n + 1, i, e => by show (valsN zs _ _ n).length + 1 = n + 1; rw [valsN_len zs n]
theorem valsN_last (zs : List Int) : ∀ (n i : Nat) (e : Int), valsN zs i e (n + 1) = valsN zs i e n ++ [valN zs i e n]
  | 0, i, e => rfl
  | n + 1, i, e => by
    show rNumV zs i e :: valsN zs (rNumA zs i e) (rNumE zs i e) (n + 1) = _
    rw [valsN_last zs n, valN_succ]
    rfl
/-- The first j of them, then zeros. -/
def fillD (zs : List Int) (i : Nat) (e : Int) (n j : Nat) : List Int := valsN zs i e j ++ List.replicate (n - j) 0
theorem fillD_len {zs : List Int} {i : Nat} {e : Int} {n j : Nat} (h : j ≤ n) : (fillD zs i e n j).length = n := by
  unfold fillD
  rw [List.length_append, valsN_len, List.length_replicate]
  omega
theorem fillD_all (zs : List Int) (i : Nat) (e : Int) (n : Nat) : fillD zs i e n n = valsN zs i e n := by unfold fillD; rw [Nat.sub_self]; simp
theorem fillD_set {zs : List Int} {i : Nat} {e : Int} {n j : Nat} (h : j < n) : (fillD zs i e n j).set j (valN zs i e j) = fillD zs i e n (j + 1) := by
  unfold fillD
  rw [List.set_append_right _ _ (by rw [valsN_len]; exact Nat.le_refl _), valsN_len, Nat.sub_self, valsN_last]
  obtain ⟨m, hm⟩ : ∃ m, n - j = m + 1 := ⟨n - j - 1, by omega⟩
  rw [hm, show n - (j + 1) = m by omega, List.replicate_succ, List.set_cons_zero, List.append_assoc]
  rfl
theorem set_parts : ∀ (d : List Int) (k : Nat), k < d.length → ∀ n : Int, d = d.take k ++ ([ix d k] ++ d.drop (k + 1)) ∧ d.set k n = d.take k ++ ([n] ++ d.drop (k + 1))
  | [], _, h, _ => by simp at h
  | x :: d, 0, _, n => ⟨rfl, rfl⟩
  | x :: d, k + 1, h, n => by
    obtain ⟨h1, h2⟩ := set_parts d k (by simpa using h) n
    refine ⟨?_, ?_⟩
    · show x :: d = x :: (d.take k ++ ([ix d k] ++ d.drop (k + 1)))
      rw [← h1]
    · show x :: d.set k n = x :: (d.take k ++ ([n] ++ d.drop (k + 1)))
      rw [← h2]
theorem cellsR_app (a b : List Int) : cellsR (a ++ b) = cellsR a ++ cellsR b := by unfold cellsR; exact List.map_append
/-! ### One cell of a letter is stored -/
section
variable {ops : Array Oper} {rest : List Oper} {d : Option Tmp} {ty : TypeId} {ps : String} {af : Array Edge} {x u : Operand} {a : Act} {w : World} {Q : Exit → Act → World → Prop} {b o : Nat} {t : TypeId} {m : Lt}
theorem wpList_store_l1 {n y : Int} {m' : Lt} {A D : List Value} (hx : a.eval x = .pointer (some ⟨b, o, none⟩)) (hy : a.eval u = .int .i64 n) (L : LAt w b t m) (e1 : m.l = A ++ ([.int .i64 y] ++ D)) (e2 : m'.l = A ++ ([.int .i64 n] ++ D)) (ho : A.length = o) (hw : LtWf m')
    (h : ∀ w', LAt w' b t m' → w.grownBy w' (some b) → wpList Try.prog ops Q rest (a.put d undef) w') :
    wpList Try.prog ops Q ({ dst := d, op := .store 3 x u, type := ty, pos := ps, after := af, guard := none } :: rest) a w :=
  wpList_plain rfl fun K hK => by
    have hz := L.r.mid (A := A) (ys := [.int .i64 y]) (B := D) (o := o) (by unfold ltC; rw [e1]) ho 0 _ rfl
    rw [Nat.add_zero] at hz
    have hf := L.r.free o
    have hp := L.put e1 e2 ho rfl hw
    have hg := grown_setCells b [.int .i64 n] o w
    have h2 := hK _ _ (h _ hp hg)
    unfold Oper.wp execOp
    simp only [hx, hy]
    go_simp
    exact h2
theorem wpList_store_lf {n : Int} (hx : a.eval x = .pointer (some ⟨b, 1, none⟩)) (hy : a.eval u = .int .i64 n) (L : LAt w b t m) (h : ∀ w', LAt w' b t { m with f := n } → w.grownBy w' (some b) → wpList Try.prog ops Q rest (a.put d undef) w') :
    wpList Try.prog ops Q ({ dst := d, op := .store 3 x u, type := ty, pos := ps, after := af, guard := none } :: rest) a w :=
  wpList_store_l1 (m' := { m with f := n }) (y := m.f) (A := [.int .i64 m.k]) (D := .int .i64 m.t :: .int .i64 m.i.1 :: .int .i64 m.i.2 :: .int .i64 m.b.1 :: .int .i64 m.b.2 :: (m.c.l ++ m.tl)) hx hy L rfl rfl rfl ⟨L.wf.a, L.wf.x, L.wf.d⟩ h
theorem wpList_store_lt {n : Int} (hx : a.eval x = .pointer (some ⟨b, 2, none⟩)) (hy : a.eval u = .int .i64 n) (L : LAt w b t m) (h : ∀ w', LAt w' b t { m with t := n } → w.grownBy w' (some b) → wpList Try.prog ops Q rest (a.put d undef) w') :
    wpList Try.prog ops Q ({ dst := d, op := .store 3 x u, type := ty, pos := ps, after := af, guard := none } :: rest) a w :=
  wpList_store_l1 (m' := { m with t := n }) (y := m.t) (A := [.int .i64 m.k, .int .i64 m.f]) (D := .int .i64 m.i.1 :: .int .i64 m.i.2 :: .int .i64 m.b.1 :: .int .i64 m.b.2 :: (m.c.l ++ m.tl)) hx hy L rfl rfl rfl ⟨L.wf.a, L.wf.x, L.wf.d⟩ h
theorem wpList_store_li1 {n : Int} (hx : a.eval x = .pointer (some ⟨b, 3, none⟩)) (hy : a.eval u = .int .i64 n) (L : LAt w b t m) (h : ∀ w', LAt w' b t { m with i := (n, m.i.2) } → w.grownBy w' (some b) → wpList Try.prog ops Q rest (a.put d undef) w') :
    wpList Try.prog ops Q ({ dst := d, op := .store 3 x u, type := ty, pos := ps, after := af, guard := none } :: rest) a w :=
  wpList_store_l1 (m' := { m with i := (n, m.i.2) }) (y := m.i.1) (A := [.int .i64 m.k, .int .i64 m.f, .int .i64 m.t]) (D := .int .i64 m.i.2 :: .int .i64 m.b.1 :: .int .i64 m.b.2 :: (m.c.l ++ m.tl)) hx hy L rfl rfl rfl ⟨L.wf.a, L.wf.x, L.wf.d⟩ h
theorem wpList_store_li2 {n : Int} (hx : a.eval x = .pointer (some ⟨b, 4, none⟩)) (hy : a.eval u = .int .i64 n) (L : LAt w b t m) (h : ∀ w', LAt w' b t { m with i := (m.i.1, n) } → w.grownBy w' (some b) → wpList Try.prog ops Q rest (a.put d undef) w') :
    wpList Try.prog ops Q ({ dst := d, op := .store 3 x u, type := ty, pos := ps, after := af, guard := none } :: rest) a w :=
  wpList_store_l1 (m' := { m with i := (m.i.1, n) }) (y := m.i.2) (A := [.int .i64 m.k, .int .i64 m.f, .int .i64 m.t, .int .i64 m.i.1]) (D := .int .i64 m.b.1 :: .int .i64 m.b.2 :: (m.c.l ++ m.tl)) hx hy L rfl rfl rfl ⟨L.wf.a, L.wf.x, L.wf.d⟩ h
theorem wpList_store_ldk {n : Int} {k : Nat} (hk : k < 7) (hx : a.eval x = .pointer (some ⟨b, 43 + k, none⟩)) (hy : a.eval u = .int .i64 n) (L : LAt w b t m) (h : ∀ w', LAt w' b t { m with d := m.d.set k n } → w.grownBy w' (some b) → wpList Try.prog ops Q rest (a.put d undef) w') :
    wpList Try.prog ops Q ({ dst := d, op := .store 3 x u, type := ty, pos := ps, after := af, guard := none } :: rest) a w := by
  obtain ⟨h1, h2⟩ := set_parts m.d k (by rw [L.wf.d]; exact hk) n
  have h3 : m.c.l.length = 7 := rfl
  have h4 : m.hd.length = 7 := rfl
  have h5 := Cl.len L.wf.x
  refine wpList_store_l1 (m' := { m with d := m.d.set k n }) (y := ix m.d k) (A := m.hd ++ (m.c.l ++ (cellsR m.a ++ (m.x.l ++ cellsR (m.d.take k))))) (D := cellsR (m.d.drop (k + 1)) ++ [.string m.z]) hx hy L ?_ ?_ ?_ ⟨L.wf.a, L.wf.x, by show (m.d.set k n).length = 7; rw [List.length_set]; exact L.wf.d⟩ h
  · have e : cellsR m.d = cellsR (m.d.take k) ++ ([.int .i64 (ix m.d k)] ++ cellsR (m.d.drop (k + 1))) := by
      have e0 := congrArg cellsR h1
      rw [cellsR_app, cellsR_app] at e0
      exact e0
    unfold Lt.l Lt.hd
    rw [e]
    simp
  · have e : cellsR (m.d.set k n) = cellsR (m.d.take k) ++ ([.int .i64 n] ++ cellsR (m.d.drop (k + 1))) := by
      rw [h2, cellsR_app, cellsR_app]
      rfl
    unfold Lt.l Lt.hd
    rw [e]
    simp
  · simp only [List.length_append, length_cellsR, L.wf.a, h3, h4, h5, List.length_take, L.wf.d]
    omega
end
/-- While a letter's fields are read: the flags' block, the answer's, the letter's. -/
structure Zm (t : TypeId) (W w : World) (B g : Nat) (zs : List Int) (i : Nat) (e : Int) (cs : Array Value) (fb r h : Nat) (m : Lt) : Prop where
  k : Rg t W w B g zs i e
  f : Row w fb 67 cs
  z : LAt w r 37 zeroLt
  c : LAt w h 37 m
  lf : W.heap.size ≤ fb
  lr : W.heap.size ≤ r
  lh : W.heap.size ≤ h
  hf : fb < h
  hr : h < r
section
variable {t : TypeId} {W w w' : World} {B g i i' fb r h : Nat} {zs : List Int} {e e' : Int} {cs : Array Value} {m m' : Lt}
theorem Zm.step (s : Zm t W w B g zs i e cs fb r h m) (hr : Rdr t w' B g zs i' e') (hg : w.grownBy w' (some g)) : Zm t W w' B g zs i' e' cs fb r h m :=
  have h1 := s.k.lt
  have h2 := s.lf
  have h3 := s.lr
  have h4 := s.lh
  ⟨s.k.step hr hg, s.f.grown hg (ne_some (by omega)), s.z.other hg (by omega), s.c.other hg (by omega), h2, h3, h4, s.hf, s.hr⟩
theorem Zm.put (s : Zm t W w B g zs i e cs fb r h m) (hc : LAt w' h 37 m') (hg : w.grownBy w' (some h)) : Zm t W w' B g zs i e cs fb r h m' :=
  have h5 := s.hf
  have h6 := s.hr
  ⟨s.k.put hg s.lh, s.f.grown hg (ne_some (by omega)), s.z.other hg (by omega), hc, s.lf, s.lr, s.lh, h5, h6⟩
end
set_option maxHeartbeats 32000000 in
theorem pread_g {w : World} {B g i : Nat} {zs : List Int} {e : Int} (h : Rdr 99 w B g zs i e) (k f t : Int) :
    Calls Try.prog 37 #[.agg (hC k), .pointer (some ⟨g, 0, none⟩), .agg (ltC (bare0 k f t))] w (ReadG 99 w B g zs (fun m => .agg (ltC m)) (if okK k then dRest k f t zs i else .ok (bare0 k f t, i)) e (fun m _ => LtWf m)) := by
  have hlt := h.lt
  have HW := hide (show LtWf (bare0 k f t) from ⟨rfl, rfl, rfl⟩)
  by_cases hk : okK k = true
  · have hk2 : 1 ≤ k ∧ k ≤ 11 := by unfold okK at hk; simpa using hk
    rw [if_pos hk]
    obtain hk | hk | hk | hk | hk | hk | hk | hk | hk | hk | hk : k = 1 ∨ k = 2 ∨ k = 3 ∨ k = 4 ∨ k = 5 ∨ k = 6 ∨ k = 7 ∨ k = 8 ∨ k = 9 ∨ k = 10 ∨ k = 11 := by omega
    · have hc : hC k = #[.bool true, .bool true, .bool true, .bool true, .bool false, .bool false, .bool false] := by rw [hk]; rfl
      rw [hc]
      have HK := hide hk
      clear hk hk2 hc
      have ZM := hide (show Zm 99 w (((w.alloc (.cells #[.bool true, .bool true, .bool true, .bool true, .bool false, .bool false, .bool false] 67)).alloc (.cells (ltC (bare0 k f t)) 37)).alloc (.cells (ltC zeroLt) 37)) B g zs i e #[.bool true, .bool true, .bool true, .bool true, .bool false, .bool false, .bool false] w.heap.size (w.heap.size + 1 + 1) (w.heap.size + 1) (bare0 k f t) from
        ⟨(((Rg.start h).alloc _).alloc _).alloc _, ((Row.new w 67 #[.bool true, .bool true, .bool true, .bool true, .bool false, .bool false, .bool false]).alloc _).alloc _, by have := LAt.new wf_zeroLt ((w.alloc (.cells #[.bool true, .bool true, .bool true, .bool true, .bool false, .bool false, .bool false] 67)).alloc (.cells (ltC (bare0 k f t)) 37)) 37; simpa only [World.size_alloc] using this,
          by have := (LAt.new HW.out (w.alloc (.cells #[.bool true, .bool true, .bool true, .bool true, .bool false, .bool false, .bool false] 67)) 37).kept ((Below.refl _ _).alloc (Nat.le_refl _) (.cells (ltC zeroLt) 37)); simpa only [World.size_alloc] using this, Nat.le_refl _, by omega, by omega, by omega, by omega⟩)
      clear h hlt
      go_enter Try.func37, Try.ntmps37
      go_upto_region 1 with (fail)
      rw [zero_lt]
      generalize ((w.alloc (.cells #[.bool true, .bool true, .bool true, .bool true, .bool false, .bool false, .bool false] 67)).alloc (.cells (ltC (bare0 k f t)) 37)).alloc (.cells (ltC zeroLt) 37) = w1 at ZM ⊢
      obtain ⟨f0, f1, f2, f3, f4, f5, f6⟩ := flags7 ZM.out.f
      have HN := hide (pnum_g ZM.out.k.r)
      go_upto_region 3 with (first
        | (go_at_call 36; (with_reducible refine HN.out.mono ?_); rintro x w3 ⟨ia, i1, e1, rfl, hr, hg, hd, hp⟩; have ZM := hide (ZM.out.step hr hg); have G1 := hide hd; have P1 := hide hp; obtain ⟨f0, f1, f2, f3, f4, f5, f6⟩ := flags7 ZM.out.f; clear hr hg hd hp HN)
        | ((with_reducible refine wpList_store_li1 (n := ia) ?_ ?_ ZM.out.c ?_); rfl; rfl; intro w4 hn hg; have ZM := hide (ZM.out.put hn hg); obtain ⟨f0, f1, f2, f3, f4, f5, f6⟩ := flags7 ZM.out.f; clear hn hg))
      try simp only [Act.put]
      have HN := hide (pnum_g ZM.out.k.r)
      go_upto_region 4 with (first
        | (go_at_call 36; (with_reducible refine HN.out.mono ?_); rintro x w3 ⟨ib, i2, e2, rfl, hr, hg, hd, hp⟩; have ZM := hide (ZM.out.step hr hg); have G2 := hide hd; have P2 := hide hp; obtain ⟨f0, f1, f2, f3, f4, f5, f6⟩ := flags7 ZM.out.f; clear hr hg hd hp HN)
        | ((with_reducible refine wpList_store_li2 (n := ib) ?_ ?_ ZM.out.c ?_); rfl; rfl; intro w4 hn hg; have ZM := hide (ZM.out.put hn hg); obtain ⟨f0, f1, f2, f3, f4, f5, f6⟩ := flags7 ZM.out.f; clear hn hg))
      try simp only [Act.put]
      have HN := hide (pballot_g ZM.out.k.r)
      go_upto_region 6 with (first
        | (go_at_call 77; (with_reducible refine HN.out.mono ?_); rintro x w3 ⟨bp, i3, e3, rfl, hr, hg, hd, hp⟩; have ZM := hide (ZM.out.step hr hg); have G3 := hide hd; have P3 := hide hp; obtain ⟨f0, f1, f2, f3, f4, f5, f6⟩ := flags7 ZM.out.f; clear hr hg hd hp HN)
        | ((with_reducible refine wpList_store_lb (p := bp.1) (q := bp.2) ?_ ?_ ZM.out.c ?_); rfl; rfl; intro w4 hn hg; have ZM := hide (ZM.out.put hn hg); obtain ⟨f0, f1, f2, f3, f4, f5, f6⟩ := flags7 ZM.out.f; clear hn hg))
      try simp only [Act.put]
      have HN := hide (pcmd_g ZM.out.k.r)
      go_upto_region 8 with (first
        | (go_at_call 78; (with_reducible refine HN.out.mono ?_); rintro x w3 ⟨cm, i4, e4, rfl, hr, hg, hd, hp⟩; have ZM := hide (ZM.out.step hr hg); have G4 := hide hd; have P4 := hide hp; obtain ⟨f0, f1, f2, f3, f4, f5, f6⟩ := flags7 ZM.out.f; clear hr hg hd hp HN)
        | ((with_reducible refine wpList_store_lc (c := cm) ?_ ?_ ZM.out.c ?_); rfl; rfl; intro w4 hn hg; have ZM := hide (ZM.out.put hn hg); obtain ⟨f0, f1, f2, f3, f4, f5, f6⟩ := flags7 ZM.out.f; clear hn hg))
      try simp only [Act.put]
      have HN := hide (pattr_g ZM.out.k.r)
      go_upto_region 10 with (first
        | (go_at_call 79; (with_reducible refine HN.out.mono ?_); rintro x w3 ⟨al, i5, e5, rfl, hr, hg, hd, hp⟩; have ZM := hide (ZM.out.step hr hg); have G5 := hide hd; have P5 := hide hp; obtain ⟨f0, f1, f2, f3, f4, f5, f6⟩ := flags7 ZM.out.f; clear hr hg hd hp HN)
        | ((with_reducible refine wpList_store_la (y := al) P5.out ?_ ?_ ZM.out.c ?_); rfl; rfl; intro w4 hn hg; have ZM := hide (ZM.out.put hn hg); obtain ⟨f0, f1, f2, f3, f4, f5, f6⟩ := flags7 ZM.out.f; clear hn hg))
      try simp only [Act.put]
      go_wp2_with (first
        | ((with_reducible refine wpList_load_lt ZM.out.c.wf ?_ ?_ ZM.out.c.all ?_); rfl; rfl)
        | ((with_reducible refine wpList_store_lw ZM.out.c.wf ?_ ?_ ZM.out.z ?_); rfl; rfl; intro w5 hn hg; have HF := hide (And.intro hn (ZM.out.k.put hg ZM.out.lr)); clear hn hg))
      exact bodyPost_ret (results_lt Try.results37 rfl HF.out.1) rfl (readG_of rfl HF.out.2 (by unfold dRest; exact (got_opt (by rw [HK.out]; rfl) ((G1.out.bnd (G2.out.bnd (Got.ok _ _ _))))).bnd ((got_opt (by rw [HK.out]; rfl) (G3.out)).bnd ((got_opt (by rw [HK.out]; rfl) (G4.out)).bnd ((got_opt (by rw [HK.out]; rfl) (G5.out)).bnd ((got_none (by rw [HK.out]; rfl)).bnd ((got_none (by rw [HK.out]; rfl)).bnd ((got_none (by rw [HK.out]; rfl)).bnd (Got.ok _ _ _)))))))) HF.out.1.wf)
    · have hc : hC k = #[.bool true, .bool true, .bool false, .bool true, .bool false, .bool false, .bool false] := by rw [hk]; rfl
      rw [hc]
      have HK := hide hk
      clear hk hk2 hc
      have ZM := hide (show Zm 99 w (((w.alloc (.cells #[.bool true, .bool true, .bool false, .bool true, .bool false, .bool false, .bool false] 67)).alloc (.cells (ltC (bare0 k f t)) 37)).alloc (.cells (ltC zeroLt) 37)) B g zs i e #[.bool true, .bool true, .bool false, .bool true, .bool false, .bool false, .bool false] w.heap.size (w.heap.size + 1 + 1) (w.heap.size + 1) (bare0 k f t) from
        ⟨(((Rg.start h).alloc _).alloc _).alloc _, ((Row.new w 67 #[.bool true, .bool true, .bool false, .bool true, .bool false, .bool false, .bool false]).alloc _).alloc _, by have := LAt.new wf_zeroLt ((w.alloc (.cells #[.bool true, .bool true, .bool false, .bool true, .bool false, .bool false, .bool false] 67)).alloc (.cells (ltC (bare0 k f t)) 37)) 37; simpa only [World.size_alloc] using this,
          by have := (LAt.new HW.out (w.alloc (.cells #[.bool true, .bool true, .bool false, .bool true, .bool false, .bool false, .bool false] 67)) 37).kept ((Below.refl _ _).alloc (Nat.le_refl _) (.cells (ltC zeroLt) 37)); simpa only [World.size_alloc] using this, Nat.le_refl _, by omega, by omega, by omega, by omega⟩)
      clear h hlt
      go_enter Try.func37, Try.ntmps37
      go_upto_region 1 with (fail)
      rw [zero_lt]
      generalize ((w.alloc (.cells #[.bool true, .bool true, .bool false, .bool true, .bool false, .bool false, .bool false] 67)).alloc (.cells (ltC (bare0 k f t)) 37)).alloc (.cells (ltC zeroLt) 37) = w1 at ZM ⊢
      obtain ⟨f0, f1, f2, f3, f4, f5, f6⟩ := flags7 ZM.out.f
      have HN := hide (pnum_g ZM.out.k.r)
      go_upto_region 3 with (first
        | (go_at_call 36; (with_reducible refine HN.out.mono ?_); rintro x w3 ⟨ia, i1, e1, rfl, hr, hg, hd, hp⟩; have ZM := hide (ZM.out.step hr hg); have G1 := hide hd; have P1 := hide hp; obtain ⟨f0, f1, f2, f3, f4, f5, f6⟩ := flags7 ZM.out.f; clear hr hg hd hp HN)
        | ((with_reducible refine wpList_store_li1 (n := ia) ?_ ?_ ZM.out.c ?_); rfl; rfl; intro w4 hn hg; have ZM := hide (ZM.out.put hn hg); obtain ⟨f0, f1, f2, f3, f4, f5, f6⟩ := flags7 ZM.out.f; clear hn hg))
      try simp only [Act.put]
      have HN := hide (pnum_g ZM.out.k.r)
      go_upto_region 4 with (first
        | (go_at_call 36; (with_reducible refine HN.out.mono ?_); rintro x w3 ⟨ib, i2, e2, rfl, hr, hg, hd, hp⟩; have ZM := hide (ZM.out.step hr hg); have G2 := hide hd; have P2 := hide hp; obtain ⟨f0, f1, f2, f3, f4, f5, f6⟩ := flags7 ZM.out.f; clear hr hg hd hp HN)
        | ((with_reducible refine wpList_store_li2 (n := ib) ?_ ?_ ZM.out.c ?_); rfl; rfl; intro w4 hn hg; have ZM := hide (ZM.out.put hn hg); obtain ⟨f0, f1, f2, f3, f4, f5, f6⟩ := flags7 ZM.out.f; clear hn hg))
      try simp only [Act.put]
      have HN := hide (pballot_g ZM.out.k.r)
      go_upto_region 6 with (first
        | (go_at_call 77; (with_reducible refine HN.out.mono ?_); rintro x w3 ⟨bp, i3, e3, rfl, hr, hg, hd, hp⟩; have ZM := hide (ZM.out.step hr hg); have G3 := hide hd; have P3 := hide hp; obtain ⟨f0, f1, f2, f3, f4, f5, f6⟩ := flags7 ZM.out.f; clear hr hg hd hp HN)
        | ((with_reducible refine wpList_store_lb (p := bp.1) (q := bp.2) ?_ ?_ ZM.out.c ?_); rfl; rfl; intro w4 hn hg; have ZM := hide (ZM.out.put hn hg); obtain ⟨f0, f1, f2, f3, f4, f5, f6⟩ := flags7 ZM.out.f; clear hn hg))
      try simp only [Act.put]
      have HN := hide (pattr_g ZM.out.k.r)
      go_upto_region 10 with (first
        | (go_at_call 79; (with_reducible refine HN.out.mono ?_); rintro x w3 ⟨al, i4, e4, rfl, hr, hg, hd, hp⟩; have ZM := hide (ZM.out.step hr hg); have G4 := hide hd; have P4 := hide hp; obtain ⟨f0, f1, f2, f3, f4, f5, f6⟩ := flags7 ZM.out.f; clear hr hg hd hp HN)
        | ((with_reducible refine wpList_store_la (y := al) P4.out ?_ ?_ ZM.out.c ?_); rfl; rfl; intro w4 hn hg; have ZM := hide (ZM.out.put hn hg); obtain ⟨f0, f1, f2, f3, f4, f5, f6⟩ := flags7 ZM.out.f; clear hn hg))
      try simp only [Act.put]
      go_wp2_with (first
        | ((with_reducible refine wpList_load_lt ZM.out.c.wf ?_ ?_ ZM.out.c.all ?_); rfl; rfl)
        | ((with_reducible refine wpList_store_lw ZM.out.c.wf ?_ ?_ ZM.out.z ?_); rfl; rfl; intro w5 hn hg; have HF := hide (And.intro hn (ZM.out.k.put hg ZM.out.lr)); clear hn hg))
      exact bodyPost_ret (results_lt Try.results37 rfl HF.out.1) rfl (readG_of rfl HF.out.2 (by unfold dRest; exact (got_opt (by rw [HK.out]; rfl) ((G1.out.bnd (G2.out.bnd (Got.ok _ _ _))))).bnd ((got_opt (by rw [HK.out]; rfl) (G3.out)).bnd ((got_none (by rw [HK.out]; rfl)).bnd ((got_opt (by rw [HK.out]; rfl) (G4.out)).bnd ((got_none (by rw [HK.out]; rfl)).bnd ((got_none (by rw [HK.out]; rfl)).bnd ((got_none (by rw [HK.out]; rfl)).bnd (Got.ok _ _ _)))))))) HF.out.1.wf)
    · have hc : hC k = #[.bool true, .bool true, .bool true, .bool true, .bool false, .bool false, .bool false] := by rw [hk]; rfl
      rw [hc]
      have HK := hide hk
      clear hk hk2 hc
      have ZM := hide (show Zm 99 w (((w.alloc (.cells #[.bool true, .bool true, .bool true, .bool true, .bool false, .bool false, .bool false] 67)).alloc (.cells (ltC (bare0 k f t)) 37)).alloc (.cells (ltC zeroLt) 37)) B g zs i e #[.bool true, .bool true, .bool true, .bool true, .bool false, .bool false, .bool false] w.heap.size (w.heap.size + 1 + 1) (w.heap.size + 1) (bare0 k f t) from
        ⟨(((Rg.start h).alloc _).alloc _).alloc _, ((Row.new w 67 #[.bool true, .bool true, .bool true, .bool true, .bool false, .bool false, .bool false]).alloc _).alloc _, by have := LAt.new wf_zeroLt ((w.alloc (.cells #[.bool true, .bool true, .bool true, .bool true, .bool false, .bool false, .bool false] 67)).alloc (.cells (ltC (bare0 k f t)) 37)) 37; simpa only [World.size_alloc] using this,
          by have := (LAt.new HW.out (w.alloc (.cells #[.bool true, .bool true, .bool true, .bool true, .bool false, .bool false, .bool false] 67)) 37).kept ((Below.refl _ _).alloc (Nat.le_refl _) (.cells (ltC zeroLt) 37)); simpa only [World.size_alloc] using this, Nat.le_refl _, by omega, by omega, by omega, by omega⟩)
      clear h hlt
      go_enter Try.func37, Try.ntmps37
      go_upto_region 1 with (fail)
      rw [zero_lt]
      generalize ((w.alloc (.cells #[.bool true, .bool true, .bool true, .bool true, .bool false, .bool false, .bool false] 67)).alloc (.cells (ltC (bare0 k f t)) 37)).alloc (.cells (ltC zeroLt) 37) = w1 at ZM ⊢
      obtain ⟨f0, f1, f2, f3, f4, f5, f6⟩ := flags7 ZM.out.f
      have HN := hide (pnum_g ZM.out.k.r)
      go_upto_region 3 with (first
        | (go_at_call 36; (with_reducible refine HN.out.mono ?_); rintro x w3 ⟨ia, i1, e1, rfl, hr, hg, hd, hp⟩; have ZM := hide (ZM.out.step hr hg); have G1 := hide hd; have P1 := hide hp; obtain ⟨f0, f1, f2, f3, f4, f5, f6⟩ := flags7 ZM.out.f; clear hr hg hd hp HN)
        | ((with_reducible refine wpList_store_li1 (n := ia) ?_ ?_ ZM.out.c ?_); rfl; rfl; intro w4 hn hg; have ZM := hide (ZM.out.put hn hg); obtain ⟨f0, f1, f2, f3, f4, f5, f6⟩ := flags7 ZM.out.f; clear hn hg))
      try simp only [Act.put]
      have HN := hide (pnum_g ZM.out.k.r)
      go_upto_region 4 with (first
        | (go_at_call 36; (with_reducible refine HN.out.mono ?_); rintro x w3 ⟨ib, i2, e2, rfl, hr, hg, hd, hp⟩; have ZM := hide (ZM.out.step hr hg); have G2 := hide hd; have P2 := hide hp; obtain ⟨f0, f1, f2, f3, f4, f5, f6⟩ := flags7 ZM.out.f; clear hr hg hd hp HN)
        | ((with_reducible refine wpList_store_li2 (n := ib) ?_ ?_ ZM.out.c ?_); rfl; rfl; intro w4 hn hg; have ZM := hide (ZM.out.put hn hg); obtain ⟨f0, f1, f2, f3, f4, f5, f6⟩ := flags7 ZM.out.f; clear hn hg))
      try simp only [Act.put]
      have HN := hide (pballot_g ZM.out.k.r)
      go_upto_region 6 with (first
        | (go_at_call 77; (with_reducible refine HN.out.mono ?_); rintro x w3 ⟨bp, i3, e3, rfl, hr, hg, hd, hp⟩; have ZM := hide (ZM.out.step hr hg); have G3 := hide hd; have P3 := hide hp; obtain ⟨f0, f1, f2, f3, f4, f5, f6⟩ := flags7 ZM.out.f; clear hr hg hd hp HN)
        | ((with_reducible refine wpList_store_lb (p := bp.1) (q := bp.2) ?_ ?_ ZM.out.c ?_); rfl; rfl; intro w4 hn hg; have ZM := hide (ZM.out.put hn hg); obtain ⟨f0, f1, f2, f3, f4, f5, f6⟩ := flags7 ZM.out.f; clear hn hg))
      try simp only [Act.put]
      have HN := hide (pcmd_g ZM.out.k.r)
      go_upto_region 8 with (first
        | (go_at_call 78; (with_reducible refine HN.out.mono ?_); rintro x w3 ⟨cm, i4, e4, rfl, hr, hg, hd, hp⟩; have ZM := hide (ZM.out.step hr hg); have G4 := hide hd; have P4 := hide hp; obtain ⟨f0, f1, f2, f3, f4, f5, f6⟩ := flags7 ZM.out.f; clear hr hg hd hp HN)
        | ((with_reducible refine wpList_store_lc (c := cm) ?_ ?_ ZM.out.c ?_); rfl; rfl; intro w4 hn hg; have ZM := hide (ZM.out.put hn hg); obtain ⟨f0, f1, f2, f3, f4, f5, f6⟩ := flags7 ZM.out.f; clear hn hg))
      try simp only [Act.put]
      have HN := hide (pattr_g ZM.out.k.r)
      go_upto_region 10 with (first
        | (go_at_call 79; (with_reducible refine HN.out.mono ?_); rintro x w3 ⟨al, i5, e5, rfl, hr, hg, hd, hp⟩; have ZM := hide (ZM.out.step hr hg); have G5 := hide hd; have P5 := hide hp; obtain ⟨f0, f1, f2, f3, f4, f5, f6⟩ := flags7 ZM.out.f; clear hr hg hd hp HN)
        | ((with_reducible refine wpList_store_la (y := al) P5.out ?_ ?_ ZM.out.c ?_); rfl; rfl; intro w4 hn hg; have ZM := hide (ZM.out.put hn hg); obtain ⟨f0, f1, f2, f3, f4, f5, f6⟩ := flags7 ZM.out.f; clear hn hg))
      try simp only [Act.put]
      go_wp2_with (first
        | ((with_reducible refine wpList_load_lt ZM.out.c.wf ?_ ?_ ZM.out.c.all ?_); rfl; rfl)
        | ((with_reducible refine wpList_store_lw ZM.out.c.wf ?_ ?_ ZM.out.z ?_); rfl; rfl; intro w5 hn hg; have HF := hide (And.intro hn (ZM.out.k.put hg ZM.out.lr)); clear hn hg))
      exact bodyPost_ret (results_lt Try.results37 rfl HF.out.1) rfl (readG_of rfl HF.out.2 (by unfold dRest; exact (got_opt (by rw [HK.out]; rfl) ((G1.out.bnd (G2.out.bnd (Got.ok _ _ _))))).bnd ((got_opt (by rw [HK.out]; rfl) (G3.out)).bnd ((got_opt (by rw [HK.out]; rfl) (G4.out)).bnd ((got_opt (by rw [HK.out]; rfl) (G5.out)).bnd ((got_none (by rw [HK.out]; rfl)).bnd ((got_none (by rw [HK.out]; rfl)).bnd ((got_none (by rw [HK.out]; rfl)).bnd (Got.ok _ _ _)))))))) HF.out.1.wf)
    · have hc : hC k = #[.bool true, .bool true, .bool false, .bool false, .bool false, .bool false, .bool false] := by rw [hk]; rfl
      rw [hc]
      have HK := hide hk
      clear hk hk2 hc
      have ZM := hide (show Zm 99 w (((w.alloc (.cells #[.bool true, .bool true, .bool false, .bool false, .bool false, .bool false, .bool false] 67)).alloc (.cells (ltC (bare0 k f t)) 37)).alloc (.cells (ltC zeroLt) 37)) B g zs i e #[.bool true, .bool true, .bool false, .bool false, .bool false, .bool false, .bool false] w.heap.size (w.heap.size + 1 + 1) (w.heap.size + 1) (bare0 k f t) from
        ⟨(((Rg.start h).alloc _).alloc _).alloc _, ((Row.new w 67 #[.bool true, .bool true, .bool false, .bool false, .bool false, .bool false, .bool false]).alloc _).alloc _, by have := LAt.new wf_zeroLt ((w.alloc (.cells #[.bool true, .bool true, .bool false, .bool false, .bool false, .bool false, .bool false] 67)).alloc (.cells (ltC (bare0 k f t)) 37)) 37; simpa only [World.size_alloc] using this,
          by have := (LAt.new HW.out (w.alloc (.cells #[.bool true, .bool true, .bool false, .bool false, .bool false, .bool false, .bool false] 67)) 37).kept ((Below.refl _ _).alloc (Nat.le_refl _) (.cells (ltC zeroLt) 37)); simpa only [World.size_alloc] using this, Nat.le_refl _, by omega, by omega, by omega, by omega⟩)
      clear h hlt
      go_enter Try.func37, Try.ntmps37
      go_upto_region 1 with (fail)
      rw [zero_lt]
      generalize ((w.alloc (.cells #[.bool true, .bool true, .bool false, .bool false, .bool false, .bool false, .bool false] 67)).alloc (.cells (ltC (bare0 k f t)) 37)).alloc (.cells (ltC zeroLt) 37) = w1 at ZM ⊢
      obtain ⟨f0, f1, f2, f3, f4, f5, f6⟩ := flags7 ZM.out.f
      have HN := hide (pnum_g ZM.out.k.r)
      go_upto_region 3 with (first
        | (go_at_call 36; (with_reducible refine HN.out.mono ?_); rintro x w3 ⟨ia, i1, e1, rfl, hr, hg, hd, hp⟩; have ZM := hide (ZM.out.step hr hg); have G1 := hide hd; have P1 := hide hp; obtain ⟨f0, f1, f2, f3, f4, f5, f6⟩ := flags7 ZM.out.f; clear hr hg hd hp HN)
        | ((with_reducible refine wpList_store_li1 (n := ia) ?_ ?_ ZM.out.c ?_); rfl; rfl; intro w4 hn hg; have ZM := hide (ZM.out.put hn hg); obtain ⟨f0, f1, f2, f3, f4, f5, f6⟩ := flags7 ZM.out.f; clear hn hg))
      try simp only [Act.put]
      have HN := hide (pnum_g ZM.out.k.r)
      go_upto_region 4 with (first
        | (go_at_call 36; (with_reducible refine HN.out.mono ?_); rintro x w3 ⟨ib, i2, e2, rfl, hr, hg, hd, hp⟩; have ZM := hide (ZM.out.step hr hg); have G2 := hide hd; have P2 := hide hp; obtain ⟨f0, f1, f2, f3, f4, f5, f6⟩ := flags7 ZM.out.f; clear hr hg hd hp HN)
        | ((with_reducible refine wpList_store_li2 (n := ib) ?_ ?_ ZM.out.c ?_); rfl; rfl; intro w4 hn hg; have ZM := hide (ZM.out.put hn hg); obtain ⟨f0, f1, f2, f3, f4, f5, f6⟩ := flags7 ZM.out.f; clear hn hg))
      try simp only [Act.put]
      have HN := hide (pballot_g ZM.out.k.r)
      go_upto_region 6 with (first
        | (go_at_call 77; (with_reducible refine HN.out.mono ?_); rintro x w3 ⟨bp, i3, e3, rfl, hr, hg, hd, hp⟩; have ZM := hide (ZM.out.step hr hg); have G3 := hide hd; have P3 := hide hp; obtain ⟨f0, f1, f2, f3, f4, f5, f6⟩ := flags7 ZM.out.f; clear hr hg hd hp HN)
        | ((with_reducible refine wpList_store_lb (p := bp.1) (q := bp.2) ?_ ?_ ZM.out.c ?_); rfl; rfl; intro w4 hn hg; have ZM := hide (ZM.out.put hn hg); obtain ⟨f0, f1, f2, f3, f4, f5, f6⟩ := flags7 ZM.out.f; clear hn hg))
      try simp only [Act.put]
      go_wp2_with (first
        | ((with_reducible refine wpList_load_lt ZM.out.c.wf ?_ ?_ ZM.out.c.all ?_); rfl; rfl)
        | ((with_reducible refine wpList_store_lw ZM.out.c.wf ?_ ?_ ZM.out.z ?_); rfl; rfl; intro w5 hn hg; have HF := hide (And.intro hn (ZM.out.k.put hg ZM.out.lr)); clear hn hg))
      exact bodyPost_ret (results_lt Try.results37 rfl HF.out.1) rfl (readG_of rfl HF.out.2 (by unfold dRest; exact (got_opt (by rw [HK.out]; rfl) ((G1.out.bnd (G2.out.bnd (Got.ok _ _ _))))).bnd ((got_opt (by rw [HK.out]; rfl) (G3.out)).bnd ((got_none (by rw [HK.out]; rfl)).bnd ((got_none (by rw [HK.out]; rfl)).bnd ((got_none (by rw [HK.out]; rfl)).bnd ((got_none (by rw [HK.out]; rfl)).bnd ((got_none (by rw [HK.out]; rfl)).bnd (Got.ok _ _ _)))))))) HF.out.1.wf)
    · have hc : hC k = #[.bool true, .bool false, .bool true, .bool true, .bool false, .bool false, .bool false] := by rw [hk]; rfl
      rw [hc]
      have HK := hide hk
      clear hk hk2 hc
      have ZM := hide (show Zm 99 w (((w.alloc (.cells #[.bool true, .bool false, .bool true, .bool true, .bool false, .bool false, .bool false] 67)).alloc (.cells (ltC (bare0 k f t)) 37)).alloc (.cells (ltC zeroLt) 37)) B g zs i e #[.bool true, .bool false, .bool true, .bool true, .bool false, .bool false, .bool false] w.heap.size (w.heap.size + 1 + 1) (w.heap.size + 1) (bare0 k f t) from
        ⟨(((Rg.start h).alloc _).alloc _).alloc _, ((Row.new w 67 #[.bool true, .bool false, .bool true, .bool true, .bool false, .bool false, .bool false]).alloc _).alloc _, by have := LAt.new wf_zeroLt ((w.alloc (.cells #[.bool true, .bool false, .bool true, .bool true, .bool false, .bool false, .bool false] 67)).alloc (.cells (ltC (bare0 k f t)) 37)) 37; simpa only [World.size_alloc] using this,
          by have := (LAt.new HW.out (w.alloc (.cells #[.bool true, .bool false, .bool true, .bool true, .bool false, .bool false, .bool false] 67)) 37).kept ((Below.refl _ _).alloc (Nat.le_refl _) (.cells (ltC zeroLt) 37)); simpa only [World.size_alloc] using this, Nat.le_refl _, by omega, by omega, by omega, by omega⟩)
      clear h hlt
      go_enter Try.func37, Try.ntmps37
      go_upto_region 1 with (fail)
      rw [zero_lt]
      generalize ((w.alloc (.cells #[.bool true, .bool false, .bool true, .bool true, .bool false, .bool false, .bool false] 67)).alloc (.cells (ltC (bare0 k f t)) 37)).alloc (.cells (ltC zeroLt) 37) = w1 at ZM ⊢
      obtain ⟨f0, f1, f2, f3, f4, f5, f6⟩ := flags7 ZM.out.f
      have HN := hide (pnum_g ZM.out.k.r)
      go_upto_region 3 with (first
        | (go_at_call 36; (with_reducible refine HN.out.mono ?_); rintro x w3 ⟨ia, i1, e1, rfl, hr, hg, hd, hp⟩; have ZM := hide (ZM.out.step hr hg); have G1 := hide hd; have P1 := hide hp; obtain ⟨f0, f1, f2, f3, f4, f5, f6⟩ := flags7 ZM.out.f; clear hr hg hd hp HN)
        | ((with_reducible refine wpList_store_li1 (n := ia) ?_ ?_ ZM.out.c ?_); rfl; rfl; intro w4 hn hg; have ZM := hide (ZM.out.put hn hg); obtain ⟨f0, f1, f2, f3, f4, f5, f6⟩ := flags7 ZM.out.f; clear hn hg))
      try simp only [Act.put]
      have HN := hide (pnum_g ZM.out.k.r)
      go_upto_region 4 with (first
        | (go_at_call 36; (with_reducible refine HN.out.mono ?_); rintro x w3 ⟨ib, i2, e2, rfl, hr, hg, hd, hp⟩; have ZM := hide (ZM.out.step hr hg); have G2 := hide hd; have P2 := hide hp; obtain ⟨f0, f1, f2, f3, f4, f5, f6⟩ := flags7 ZM.out.f; clear hr hg hd hp HN)
        | ((with_reducible refine wpList_store_li2 (n := ib) ?_ ?_ ZM.out.c ?_); rfl; rfl; intro w4 hn hg; have ZM := hide (ZM.out.put hn hg); obtain ⟨f0, f1, f2, f3, f4, f5, f6⟩ := flags7 ZM.out.f; clear hn hg))
      try simp only [Act.put]
      have HN := hide (pcmd_g ZM.out.k.r)
      go_upto_region 8 with (first
        | (go_at_call 78; (with_reducible refine HN.out.mono ?_); rintro x w3 ⟨cm, i3, e3, rfl, hr, hg, hd, hp⟩; have ZM := hide (ZM.out.step hr hg); have G3 := hide hd; have P3 := hide hp; obtain ⟨f0, f1, f2, f3, f4, f5, f6⟩ := flags7 ZM.out.f; clear hr hg hd hp HN)
        | ((with_reducible refine wpList_store_lc (c := cm) ?_ ?_ ZM.out.c ?_); rfl; rfl; intro w4 hn hg; have ZM := hide (ZM.out.put hn hg); obtain ⟨f0, f1, f2, f3, f4, f5, f6⟩ := flags7 ZM.out.f; clear hn hg))
      try simp only [Act.put]
      have HN := hide (pattr_g ZM.out.k.r)
      go_upto_region 10 with (first
        | (go_at_call 79; (with_reducible refine HN.out.mono ?_); rintro x w3 ⟨al, i4, e4, rfl, hr, hg, hd, hp⟩; have ZM := hide (ZM.out.step hr hg); have G4 := hide hd; have P4 := hide hp; obtain ⟨f0, f1, f2, f3, f4, f5, f6⟩ := flags7 ZM.out.f; clear hr hg hd hp HN)
        | ((with_reducible refine wpList_store_la (y := al) P4.out ?_ ?_ ZM.out.c ?_); rfl; rfl; intro w4 hn hg; have ZM := hide (ZM.out.put hn hg); obtain ⟨f0, f1, f2, f3, f4, f5, f6⟩ := flags7 ZM.out.f; clear hn hg))
      try simp only [Act.put]
      go_wp2_with (first
        | ((with_reducible refine wpList_load_lt ZM.out.c.wf ?_ ?_ ZM.out.c.all ?_); rfl; rfl)
        | ((with_reducible refine wpList_store_lw ZM.out.c.wf ?_ ?_ ZM.out.z ?_); rfl; rfl; intro w5 hn hg; have HF := hide (And.intro hn (ZM.out.k.put hg ZM.out.lr)); clear hn hg))
      exact bodyPost_ret (results_lt Try.results37 rfl HF.out.1) rfl (readG_of rfl HF.out.2 (by unfold dRest; exact (got_opt (by rw [HK.out]; rfl) ((G1.out.bnd (G2.out.bnd (Got.ok _ _ _))))).bnd ((got_none (by rw [HK.out]; rfl)).bnd ((got_opt (by rw [HK.out]; rfl) (G3.out)).bnd ((got_opt (by rw [HK.out]; rfl) (G4.out)).bnd ((got_none (by rw [HK.out]; rfl)).bnd ((got_none (by rw [HK.out]; rfl)).bnd ((got_none (by rw [HK.out]; rfl)).bnd (Got.ok _ _ _)))))))) HF.out.1.wf)
    · have hc : hC k = #[.bool true, .bool true, .bool false, .bool false, .bool false, .bool false, .bool false] := by rw [hk]; rfl
      rw [hc]
      have HK := hide hk
      clear hk hk2 hc
      have ZM := hide (show Zm 99 w (((w.alloc (.cells #[.bool true, .bool true, .bool false, .bool false, .bool false, .bool false, .bool false] 67)).alloc (.cells (ltC (bare0 k f t)) 37)).alloc (.cells (ltC zeroLt) 37)) B g zs i e #[.bool true, .bool true, .bool false, .bool false, .bool false, .bool false, .bool false] w.heap.size (w.heap.size + 1 + 1) (w.heap.size + 1) (bare0 k f t) from
        ⟨(((Rg.start h).alloc _).alloc _).alloc _, ((Row.new w 67 #[.bool true, .bool true, .bool false, .bool false, .bool false, .bool false, .bool false]).alloc _).alloc _, by have := LAt.new wf_zeroLt ((w.alloc (.cells #[.bool true, .bool true, .bool false, .bool false, .bool false, .bool false, .bool false] 67)).alloc (.cells (ltC (bare0 k f t)) 37)) 37; simpa only [World.size_alloc] using this,
          by have := (LAt.new HW.out (w.alloc (.cells #[.bool true, .bool true, .bool false, .bool false, .bool false, .bool false, .bool false] 67)) 37).kept ((Below.refl _ _).alloc (Nat.le_refl _) (.cells (ltC zeroLt) 37)); simpa only [World.size_alloc] using this, Nat.le_refl _, by omega, by omega, by omega, by omega⟩)
      clear h hlt
      go_enter Try.func37, Try.ntmps37
      go_upto_region 1 with (fail)
      rw [zero_lt]
      generalize ((w.alloc (.cells #[.bool true, .bool true, .bool false, .bool false, .bool false, .bool false, .bool false] 67)).alloc (.cells (ltC (bare0 k f t)) 37)).alloc (.cells (ltC zeroLt) 37) = w1 at ZM ⊢
      obtain ⟨f0, f1, f2, f3, f4, f5, f6⟩ := flags7 ZM.out.f
      have HN := hide (pnum_g ZM.out.k.r)
      go_upto_region 3 with (first
        | (go_at_call 36; (with_reducible refine HN.out.mono ?_); rintro x w3 ⟨ia, i1, e1, rfl, hr, hg, hd, hp⟩; have ZM := hide (ZM.out.step hr hg); have G1 := hide hd; have P1 := hide hp; obtain ⟨f0, f1, f2, f3, f4, f5, f6⟩ := flags7 ZM.out.f; clear hr hg hd hp HN)
        | ((with_reducible refine wpList_store_li1 (n := ia) ?_ ?_ ZM.out.c ?_); rfl; rfl; intro w4 hn hg; have ZM := hide (ZM.out.put hn hg); obtain ⟨f0, f1, f2, f3, f4, f5, f6⟩ := flags7 ZM.out.f; clear hn hg))
      try simp only [Act.put]
      have HN := hide (pnum_g ZM.out.k.r)
      go_upto_region 4 with (first
        | (go_at_call 36; (with_reducible refine HN.out.mono ?_); rintro x w3 ⟨ib, i2, e2, rfl, hr, hg, hd, hp⟩; have ZM := hide (ZM.out.step hr hg); have G2 := hide hd; have P2 := hide hp; obtain ⟨f0, f1, f2, f3, f4, f5, f6⟩ := flags7 ZM.out.f; clear hr hg hd hp HN)
        | ((with_reducible refine wpList_store_li2 (n := ib) ?_ ?_ ZM.out.c ?_); rfl; rfl; intro w4 hn hg; have ZM := hide (ZM.out.put hn hg); obtain ⟨f0, f1, f2, f3, f4, f5, f6⟩ := flags7 ZM.out.f; clear hn hg))
      try simp only [Act.put]
      have HN := hide (pballot_g ZM.out.k.r)
      go_upto_region 6 with (first
        | (go_at_call 77; (with_reducible refine HN.out.mono ?_); rintro x w3 ⟨bp, i3, e3, rfl, hr, hg, hd, hp⟩; have ZM := hide (ZM.out.step hr hg); have G3 := hide hd; have P3 := hide hp; obtain ⟨f0, f1, f2, f3, f4, f5, f6⟩ := flags7 ZM.out.f; clear hr hg hd hp HN)
        | ((with_reducible refine wpList_store_lb (p := bp.1) (q := bp.2) ?_ ?_ ZM.out.c ?_); rfl; rfl; intro w4 hn hg; have ZM := hide (ZM.out.put hn hg); obtain ⟨f0, f1, f2, f3, f4, f5, f6⟩ := flags7 ZM.out.f; clear hn hg))
      try simp only [Act.put]
      go_wp2_with (first
        | ((with_reducible refine wpList_load_lt ZM.out.c.wf ?_ ?_ ZM.out.c.all ?_); rfl; rfl)
        | ((with_reducible refine wpList_store_lw ZM.out.c.wf ?_ ?_ ZM.out.z ?_); rfl; rfl; intro w5 hn hg; have HF := hide (And.intro hn (ZM.out.k.put hg ZM.out.lr)); clear hn hg))
      exact bodyPost_ret (results_lt Try.results37 rfl HF.out.1) rfl (readG_of rfl HF.out.2 (by unfold dRest; exact (got_opt (by rw [HK.out]; rfl) ((G1.out.bnd (G2.out.bnd (Got.ok _ _ _))))).bnd ((got_opt (by rw [HK.out]; rfl) (G3.out)).bnd ((got_none (by rw [HK.out]; rfl)).bnd ((got_none (by rw [HK.out]; rfl)).bnd ((got_none (by rw [HK.out]; rfl)).bnd ((got_none (by rw [HK.out]; rfl)).bnd ((got_none (by rw [HK.out]; rfl)).bnd (Got.ok _ _ _)))))))) HF.out.1.wf)
    · have hc : hC k = #[.bool true, .bool true, .bool false, .bool false, .bool true, .bool false, .bool false] := by rw [hk]; rfl
      rw [hc]
      have HK := hide hk
      clear hk hk2 hc
      have ZM := hide (show Zm 99 w (((w.alloc (.cells #[.bool true, .bool true, .bool false, .bool false, .bool true, .bool false, .bool false] 67)).alloc (.cells (ltC (bare0 k f t)) 37)).alloc (.cells (ltC zeroLt) 37)) B g zs i e #[.bool true, .bool true, .bool false, .bool false, .bool true, .bool false, .bool false] w.heap.size (w.heap.size + 1 + 1) (w.heap.size + 1) (bare0 k f t) from
        ⟨(((Rg.start h).alloc _).alloc _).alloc _, ((Row.new w 67 #[.bool true, .bool true, .bool false, .bool false, .bool true, .bool false, .bool false]).alloc _).alloc _, by have := LAt.new wf_zeroLt ((w.alloc (.cells #[.bool true, .bool true, .bool false, .bool false, .bool true, .bool false, .bool false] 67)).alloc (.cells (ltC (bare0 k f t)) 37)) 37; simpa only [World.size_alloc] using this,
          by have := (LAt.new HW.out (w.alloc (.cells #[.bool true, .bool true, .bool false, .bool false, .bool true, .bool false, .bool false] 67)) 37).kept ((Below.refl _ _).alloc (Nat.le_refl _) (.cells (ltC zeroLt) 37)); simpa only [World.size_alloc] using this, Nat.le_refl _, by omega, by omega, by omega, by omega⟩)
      clear h hlt
      go_enter Try.func37, Try.ntmps37
      go_upto_region 1 with (fail)
      rw [zero_lt]
      generalize ((w.alloc (.cells #[.bool true, .bool true, .bool false, .bool false, .bool true, .bool false, .bool false] 67)).alloc (.cells (ltC (bare0 k f t)) 37)).alloc (.cells (ltC zeroLt) 37) = w1 at ZM ⊢
      obtain ⟨f0, f1, f2, f3, f4, f5, f6⟩ := flags7 ZM.out.f
      have HN := hide (pnum_g ZM.out.k.r)
      go_upto_region 3 with (first
        | (go_at_call 36; (with_reducible refine HN.out.mono ?_); rintro x w3 ⟨ia, i1, e1, rfl, hr, hg, hd, hp⟩; have ZM := hide (ZM.out.step hr hg); have G1 := hide hd; have P1 := hide hp; obtain ⟨f0, f1, f2, f3, f4, f5, f6⟩ := flags7 ZM.out.f; clear hr hg hd hp HN)
        | ((with_reducible refine wpList_store_li1 (n := ia) ?_ ?_ ZM.out.c ?_); rfl; rfl; intro w4 hn hg; have ZM := hide (ZM.out.put hn hg); obtain ⟨f0, f1, f2, f3, f4, f5, f6⟩ := flags7 ZM.out.f; clear hn hg))
      try simp only [Act.put]
      have HN := hide (pnum_g ZM.out.k.r)
      go_upto_region 4 with (first
        | (go_at_call 36; (with_reducible refine HN.out.mono ?_); rintro x w3 ⟨ib, i2, e2, rfl, hr, hg, hd, hp⟩; have ZM := hide (ZM.out.step hr hg); have G2 := hide hd; have P2 := hide hp; obtain ⟨f0, f1, f2, f3, f4, f5, f6⟩ := flags7 ZM.out.f; clear hr hg hd hp HN)
        | ((with_reducible refine wpList_store_li2 (n := ib) ?_ ?_ ZM.out.c ?_); rfl; rfl; intro w4 hn hg; have ZM := hide (ZM.out.put hn hg); obtain ⟨f0, f1, f2, f3, f4, f5, f6⟩ := flags7 ZM.out.f; clear hn hg))
      try simp only [Act.put]
      have HN := hide (pballot_g ZM.out.k.r)
      go_upto_region 6 with (first
        | (go_at_call 77; (with_reducible refine HN.out.mono ?_); rintro x w3 ⟨bp, i3, e3, rfl, hr, hg, hd, hp⟩; have ZM := hide (ZM.out.step hr hg); have G3 := hide hd; have P3 := hide hp; obtain ⟨f0, f1, f2, f3, f4, f5, f6⟩ := flags7 ZM.out.f; clear hr hg hd hp HN)
        | ((with_reducible refine wpList_store_lb (p := bp.1) (q := bp.2) ?_ ?_ ZM.out.c ?_); rfl; rfl; intro w4 hn hg; have ZM := hide (ZM.out.put hn hg); obtain ⟨f0, f1, f2, f3, f4, f5, f6⟩ := flags7 ZM.out.f; clear hn hg))
      try simp only [Act.put]
      have HN := hide (pgetcell_g ZM.out.k.r)
      go_upto_region 12 with (first
        | (go_at_call 25; (with_reducible refine HN.out.mono ?_); rintro x w3 ⟨cl, i4, e4, rfl, hr, hg, hd, hp⟩; have ZM := hide (ZM.out.step hr hg); have G4 := hide hd; have P4 := hide (show cl.a.length = 8 from hp.1); obtain ⟨f0, f1, f2, f3, f4, f5, f6⟩ := flags7 ZM.out.f; clear hr hg hd hp HN)
        | ((with_reducible refine wpList_store_lx (y := cl) P4.out ?_ ?_ ZM.out.c ?_); rfl; rfl; intro w4 hn hg; have ZM := hide (ZM.out.put hn hg); obtain ⟨f0, f1, f2, f3, f4, f5, f6⟩ := flags7 ZM.out.f; clear hn hg))
      try simp only [Act.put]
      go_wp2_with (first
        | ((with_reducible refine wpList_load_lt ZM.out.c.wf ?_ ?_ ZM.out.c.all ?_); rfl; rfl)
        | ((with_reducible refine wpList_store_lw ZM.out.c.wf ?_ ?_ ZM.out.z ?_); rfl; rfl; intro w5 hn hg; have HF := hide (And.intro hn (ZM.out.k.put hg ZM.out.lr)); clear hn hg))
      exact bodyPost_ret (results_lt Try.results37 rfl HF.out.1) rfl (readG_of rfl HF.out.2 (by unfold dRest; exact (got_opt (by rw [HK.out]; rfl) ((G1.out.bnd (G2.out.bnd (Got.ok _ _ _))))).bnd ((got_opt (by rw [HK.out]; rfl) (G3.out)).bnd ((got_none (by rw [HK.out]; rfl)).bnd ((got_none (by rw [HK.out]; rfl)).bnd ((got_opt (by rw [HK.out]; rfl) (G4.out)).bnd ((got_none (by rw [HK.out]; rfl)).bnd ((got_none (by rw [HK.out]; rfl)).bnd (Got.ok _ _ _)))))))) HF.out.1.wf)
    · have hc : hC k = #[.bool true, .bool true, .bool false, .bool false, .bool false, .bool false, .bool false] := by rw [hk]; rfl
      rw [hc]
      have HK := hide hk
      clear hk hk2 hc
      have ZM := hide (show Zm 99 w (((w.alloc (.cells #[.bool true, .bool true, .bool false, .bool false, .bool false, .bool false, .bool false] 67)).alloc (.cells (ltC (bare0 k f t)) 37)).alloc (.cells (ltC zeroLt) 37)) B g zs i e #[.bool true, .bool true, .bool false, .bool false, .bool false, .bool false, .bool false] w.heap.size (w.heap.size + 1 + 1) (w.heap.size + 1) (bare0 k f t) from
        ⟨(((Rg.start h).alloc _).alloc _).alloc _, ((Row.new w 67 #[.bool true, .bool true, .bool false, .bool false, .bool false, .bool false, .bool false]).alloc _).alloc _, by have := LAt.new wf_zeroLt ((w.alloc (.cells #[.bool true, .bool true, .bool false, .bool false, .bool false, .bool false, .bool false] 67)).alloc (.cells (ltC (bare0 k f t)) 37)) 37; simpa only [World.size_alloc] using this,
          by have := (LAt.new HW.out (w.alloc (.cells #[.bool true, .bool true, .bool false, .bool false, .bool false, .bool false, .bool false] 67)) 37).kept ((Below.refl _ _).alloc (Nat.le_refl _) (.cells (ltC zeroLt) 37)); simpa only [World.size_alloc] using this, Nat.le_refl _, by omega, by omega, by omega, by omega⟩)
      clear h hlt
      go_enter Try.func37, Try.ntmps37
      go_upto_region 1 with (fail)
      rw [zero_lt]
      generalize ((w.alloc (.cells #[.bool true, .bool true, .bool false, .bool false, .bool false, .bool false, .bool false] 67)).alloc (.cells (ltC (bare0 k f t)) 37)).alloc (.cells (ltC zeroLt) 37) = w1 at ZM ⊢
      obtain ⟨f0, f1, f2, f3, f4, f5, f6⟩ := flags7 ZM.out.f
      have HN := hide (pnum_g ZM.out.k.r)
      go_upto_region 3 with (first
        | (go_at_call 36; (with_reducible refine HN.out.mono ?_); rintro x w3 ⟨ia, i1, e1, rfl, hr, hg, hd, hp⟩; have ZM := hide (ZM.out.step hr hg); have G1 := hide hd; have P1 := hide hp; obtain ⟨f0, f1, f2, f3, f4, f5, f6⟩ := flags7 ZM.out.f; clear hr hg hd hp HN)
        | ((with_reducible refine wpList_store_li1 (n := ia) ?_ ?_ ZM.out.c ?_); rfl; rfl; intro w4 hn hg; have ZM := hide (ZM.out.put hn hg); obtain ⟨f0, f1, f2, f3, f4, f5, f6⟩ := flags7 ZM.out.f; clear hn hg))
      try simp only [Act.put]
      have HN := hide (pnum_g ZM.out.k.r)
      go_upto_region 4 with (first
        | (go_at_call 36; (with_reducible refine HN.out.mono ?_); rintro x w3 ⟨ib, i2, e2, rfl, hr, hg, hd, hp⟩; have ZM := hide (ZM.out.step hr hg); have G2 := hide hd; have P2 := hide hp; obtain ⟨f0, f1, f2, f3, f4, f5, f6⟩ := flags7 ZM.out.f; clear hr hg hd hp HN)
        | ((with_reducible refine wpList_store_li2 (n := ib) ?_ ?_ ZM.out.c ?_); rfl; rfl; intro w4 hn hg; have ZM := hide (ZM.out.put hn hg); obtain ⟨f0, f1, f2, f3, f4, f5, f6⟩ := flags7 ZM.out.f; clear hn hg))
      try simp only [Act.put]
      have HN := hide (pballot_g ZM.out.k.r)
      go_upto_region 6 with (first
        | (go_at_call 77; (with_reducible refine HN.out.mono ?_); rintro x w3 ⟨bp, i3, e3, rfl, hr, hg, hd, hp⟩; have ZM := hide (ZM.out.step hr hg); have G3 := hide hd; have P3 := hide hp; obtain ⟨f0, f1, f2, f3, f4, f5, f6⟩ := flags7 ZM.out.f; clear hr hg hd hp HN)
        | ((with_reducible refine wpList_store_lb (p := bp.1) (q := bp.2) ?_ ?_ ZM.out.c ?_); rfl; rfl; intro w4 hn hg; have ZM := hide (ZM.out.put hn hg); obtain ⟨f0, f1, f2, f3, f4, f5, f6⟩ := flags7 ZM.out.f; clear hn hg))
      try simp only [Act.put]
      go_wp2_with (first
        | ((with_reducible refine wpList_load_lt ZM.out.c.wf ?_ ?_ ZM.out.c.all ?_); rfl; rfl)
        | ((with_reducible refine wpList_store_lw ZM.out.c.wf ?_ ?_ ZM.out.z ?_); rfl; rfl; intro w5 hn hg; have HF := hide (And.intro hn (ZM.out.k.put hg ZM.out.lr)); clear hn hg))
      exact bodyPost_ret (results_lt Try.results37 rfl HF.out.1) rfl (readG_of rfl HF.out.2 (by unfold dRest; exact (got_opt (by rw [HK.out]; rfl) ((G1.out.bnd (G2.out.bnd (Got.ok _ _ _))))).bnd ((got_opt (by rw [HK.out]; rfl) (G3.out)).bnd ((got_none (by rw [HK.out]; rfl)).bnd ((got_none (by rw [HK.out]; rfl)).bnd ((got_none (by rw [HK.out]; rfl)).bnd ((got_none (by rw [HK.out]; rfl)).bnd ((got_none (by rw [HK.out]; rfl)).bnd (Got.ok _ _ _)))))))) HF.out.1.wf)
    · have hc : hC k = #[.bool false, .bool false, .bool false, .bool false, .bool false, .bool true, .bool false] := by rw [hk]; rfl
      rw [hc]
      have HK := hide hk
      clear hk hk2 hc
      have ZM := hide (show Zm 99 w (((w.alloc (.cells #[.bool false, .bool false, .bool false, .bool false, .bool false, .bool true, .bool false] 67)).alloc (.cells (ltC (bare0 k f t)) 37)).alloc (.cells (ltC zeroLt) 37)) B g zs i e #[.bool false, .bool false, .bool false, .bool false, .bool false, .bool true, .bool false] w.heap.size (w.heap.size + 1 + 1) (w.heap.size + 1) (bare0 k f t) from
        ⟨(((Rg.start h).alloc _).alloc _).alloc _, ((Row.new w 67 #[.bool false, .bool false, .bool false, .bool false, .bool false, .bool true, .bool false]).alloc _).alloc _, by have := LAt.new wf_zeroLt ((w.alloc (.cells #[.bool false, .bool false, .bool false, .bool false, .bool false, .bool true, .bool false] 67)).alloc (.cells (ltC (bare0 k f t)) 37)) 37; simpa only [World.size_alloc] using this,
          by have := (LAt.new HW.out (w.alloc (.cells #[.bool false, .bool false, .bool false, .bool false, .bool false, .bool true, .bool false] 67)) 37).kept ((Below.refl _ _).alloc (Nat.le_refl _) (.cells (ltC zeroLt) 37)); simpa only [World.size_alloc] using this, Nat.le_refl _, by omega, by omega, by omega, by omega⟩)
      clear h hlt
      go_enter Try.func37, Try.ntmps37
      go_upto_region 1 with (fail)
      rw [zero_lt]
      generalize ((w.alloc (.cells #[.bool false, .bool false, .bool false, .bool false, .bool false, .bool true, .bool false] 67)).alloc (.cells (ltC (bare0 k f t)) 37)).alloc (.cells (ltC zeroLt) 37) = w1 at ZM ⊢
      obtain ⟨f0, f1, f2, f3, f4, f5, f6⟩ := flags7 ZM.out.f
      go_upto_region 13 with (fail)
      have GD := hide (got_nums zs 7 i e)
      have ZD := hide (show Zm 99 w w1 B g zs (stN zs i e 0).1 (stN zs i e 0).2 #[.bool false, .bool false, .bool false, .bool false, .bool false, .bool true, .bool false] w.heap.size (w.heap.size + 1 + 1) (w.heap.size + 1) { bare0 k f t with d := fillD zs i e 7 0 } from ZM.out)
      clear ZM f0 f1 f2 f3 f4 f5 f6
      go_wp2
      go_loopw [40] (fun j wr => ∃ n : Nat, n ≤ 7 ∧ j = .int .i64 n ∧ Hid (Zm 99 w wr B g zs (stN zs i e n).1 (stN zs i e n).2 #[.bool false, .bool false, .bool false, .bool false, .bool false, .bool true, .bool false] w.heap.size (w.heap.size + 1 + 1) (w.heap.size + 1) { bare0 k f t with d := fillD zs i e 7 n })) (fun j _ => 7 - (intOf j).toNat)
      case atStart => exact ⟨0, by omega, rfl, ZD⟩
      case round =>
        clear ZD
        obtain ⟨n, hn, rfl, ZM⟩ := hrel
        by_cases hlt : n < 7
        · have HN := hide (pnum_any ZM.out.k.r)
          have n7 : (n : Int) < 7 := by omega
          have n0 : (0 : Int) ≤ (n : Int) := by omega
          have HX := hide (fun (w' : World) (m : Lt) (s : Zm 99 w w' B g zs (stN zs i e (n + 1)).1 (stN zs i e (n + 1)).2 #[.bool false, .bool false, .bool false, .bool false, .bool false, .bool true, .bool false] w.heap.size (w.heap.size + 1 + 1) (w.heap.size + 1) m) (hm : m = { bare0 k f t with d := fillD zs i e 7 (n + 1) }) => (hm ▸ s : Zm 99 w w' B g zs (stN zs i e (n + 1)).1 (stN zs i e (n + 1)).2 #[.bool false, .bool false, .bool false, .bool false, .bool false, .bool true, .bool false] w.heap.size (w.heap.size + 1 + 1) (w.heap.size + 1) { bare0 k f t with d := fillD zs i e 7 (n + 1) }))
          have HS := hide (fillD_set (zs := zs) (i := i) (e := e) hlt)
          go_wp2_with (first
            | (go_at_call 36; (with_reducible refine HN.out.mono ?_); rintro x w3 ⟨rfl, hr, hg⟩; have ZM := hide (ZM.out.step hr hg); clear hr hg HN)
            | ((with_reducible refine wpList_store_ldk (k := n) (n := rNumV zs (stN zs i e n).1 (stN zs i e n).2) hlt ?_ ?_ ZM.out.c ?_); rfl; rfl; intro w4 hn hg; have ZM := hide (ZM.out.put hn hg); clear hn hg))
          have ZM2 := hide (HX.out _ _ (by rw [stN_last]; exact ZM.out) (by show ({ bare0 k f t with d := (fillD zs i e 7 n).set n (valN zs i e n) } : Lt) = _; rw [HS.out]))
          clear ZM HX HS
          go_roundw
          case rel => exact ⟨n + 1, by omega, by go_num, ZM2⟩
          case measure => simp [intOf]; omega
        · obtain rfl : n = 7 := by omega
          have n7 : ¬ (((7 : Nat) : Int) < 7) := by omega
          have ZM2 := hide (show Zm 99 w wr B g zs (stN zs i e 7).1 (stN zs i e 7).2 #[.bool false, .bool false, .bool false, .bool false, .bool false, .bool true, .bool false] w.heap.size (w.heap.size + 1 + 1) (w.heap.size + 1) { bare0 k f t with d := valsN zs i e 7 } from by have := ZM.out; rw [fillD_all] at this; exact this)
          clear ZM
          obtain ⟨f0, f1, f2, f3, f4, f5, f6⟩ := flags7 ZM2.out.f
          go_wp2_with (first
            | ((with_reducible refine wpList_load_lt ZM2.out.c.wf ?_ ?_ ZM2.out.c.all ?_); rfl; rfl)
            | ((with_reducible refine wpList_store_lw ZM2.out.c.wf ?_ ?_ ZM2.out.z ?_); rfl; rfl; intro w5 hn hg; have HF := hide (And.intro hn (ZM2.out.k.put hg ZM2.out.lr)); clear hn hg))
          exact bodyPost_ret (results_lt Try.results37 rfl HF.out.1) rfl (readG_of rfl HF.out.2 (by unfold dRest; exact (got_none (by rw [HK.out]; rfl)).bnd ((got_none (by rw [HK.out]; rfl)).bnd ((got_none (by rw [HK.out]; rfl)).bnd ((got_none (by rw [HK.out]; rfl)).bnd ((got_none (by rw [HK.out]; rfl)).bnd ((got_opt (by rw [HK.out]; rfl) (GD.out)).bnd ((got_none (by rw [HK.out]; rfl)).bnd (Got.ok _ _ _)))))))) HF.out.1.wf)
    · have hc : hC k = #[.bool false, .bool false, .bool false, .bool false, .bool false, .bool false, .bool true] := by rw [hk]; rfl
      rw [hc]
      have HK := hide hk
      clear hk hk2 hc
      have ZM := hide (show Zm 99 w (((w.alloc (.cells #[.bool false, .bool false, .bool false, .bool false, .bool false, .bool false, .bool true] 67)).alloc (.cells (ltC (bare0 k f t)) 37)).alloc (.cells (ltC zeroLt) 37)) B g zs i e #[.bool false, .bool false, .bool false, .bool false, .bool false, .bool false, .bool true] w.heap.size (w.heap.size + 1 + 1) (w.heap.size + 1) (bare0 k f t) from
        ⟨(((Rg.start h).alloc _).alloc _).alloc _, ((Row.new w 67 #[.bool false, .bool false, .bool false, .bool false, .bool false, .bool false, .bool true]).alloc _).alloc _, by have := LAt.new wf_zeroLt ((w.alloc (.cells #[.bool false, .bool false, .bool false, .bool false, .bool false, .bool false, .bool true] 67)).alloc (.cells (ltC (bare0 k f t)) 37)) 37; simpa only [World.size_alloc] using this,
          by have := (LAt.new HW.out (w.alloc (.cells #[.bool false, .bool false, .bool false, .bool false, .bool false, .bool false, .bool true] 67)) 37).kept ((Below.refl _ _).alloc (Nat.le_refl _) (.cells (ltC zeroLt) 37)); simpa only [World.size_alloc] using this, Nat.le_refl _, by omega, by omega, by omega, by omega⟩)
      clear h hlt
      go_enter Try.func37, Try.ntmps37
      go_upto_region 1 with (fail)
      rw [zero_lt]
      generalize ((w.alloc (.cells #[.bool false, .bool false, .bool false, .bool false, .bool false, .bool false, .bool true] 67)).alloc (.cells (ltC (bare0 k f t)) 37)).alloc (.cells (ltC zeroLt) 37) = w1 at ZM ⊢
      obtain ⟨f0, f1, f2, f3, f4, f5, f6⟩ := flags7 ZM.out.f
      have HN := hide (ptext_g ZM.out.k.r 16384)
      go_upto_region 20 with (first
        | (go_at_call 80; (with_reducible refine HN.out.mono ?_); rintro x w3 ⟨tz, i1, e1, rfl, hr, hg, hd, hp⟩; have ZM := hide (ZM.out.step hr hg); have G1 := hide hd; have P1 := hide hp; obtain ⟨f0, f1, f2, f3, f4, f5, f6⟩ := flags7 ZM.out.f; clear hr hg hd hp HN)
        | ((with_reducible refine wpList_store_lzp (z := tz) ?_ ?_ ZM.out.c ?_); rfl; rfl; intro w4 hn hg; have ZM := hide (ZM.out.put hn hg); obtain ⟨f0, f1, f2, f3, f4, f5, f6⟩ := flags7 ZM.out.f; clear hn hg))
      try simp only [Act.put]
      go_wp2_with (first
        | ((with_reducible refine wpList_load_lt ZM.out.c.wf ?_ ?_ ZM.out.c.all ?_); rfl; rfl)
        | ((with_reducible refine wpList_store_lw ZM.out.c.wf ?_ ?_ ZM.out.z ?_); rfl; rfl; intro w5 hn hg; have HF := hide (And.intro hn (ZM.out.k.put hg ZM.out.lr)); clear hn hg))
      exact bodyPost_ret (results_lt Try.results37 rfl HF.out.1) rfl (readG_of rfl HF.out.2 (by unfold dRest; exact (got_none (by rw [HK.out]; rfl)).bnd ((got_none (by rw [HK.out]; rfl)).bnd ((got_none (by rw [HK.out]; rfl)).bnd ((got_none (by rw [HK.out]; rfl)).bnd ((got_none (by rw [HK.out]; rfl)).bnd ((got_none (by rw [HK.out]; rfl)).bnd ((got_opt (by rw [HK.out]; rfl) (G1.out)).bnd (Got.ok _ _ _)))))))) HF.out.1.wf)
    · have hc : hC k = #[.bool false, .bool false, .bool false, .bool false, .bool false, .bool true, .bool false] := by rw [hk]; rfl
      rw [hc]
      have HK := hide hk
      clear hk hk2 hc
      have ZM := hide (show Zm 99 w (((w.alloc (.cells #[.bool false, .bool false, .bool false, .bool false, .bool false, .bool true, .bool false] 67)).alloc (.cells (ltC (bare0 k f t)) 37)).alloc (.cells (ltC zeroLt) 37)) B g zs i e #[.bool false, .bool false, .bool false, .bool false, .bool false, .bool true, .bool false] w.heap.size (w.heap.size + 1 + 1) (w.heap.size + 1) (bare0 k f t) from
        ⟨(((Rg.start h).alloc _).alloc _).alloc _, ((Row.new w 67 #[.bool false, .bool false, .bool false, .bool false, .bool false, .bool true, .bool false]).alloc _).alloc _, by have := LAt.new wf_zeroLt ((w.alloc (.cells #[.bool false, .bool false, .bool false, .bool false, .bool false, .bool true, .bool false] 67)).alloc (.cells (ltC (bare0 k f t)) 37)) 37; simpa only [World.size_alloc] using this,
          by have := (LAt.new HW.out (w.alloc (.cells #[.bool false, .bool false, .bool false, .bool false, .bool false, .bool true, .bool false] 67)) 37).kept ((Below.refl _ _).alloc (Nat.le_refl _) (.cells (ltC zeroLt) 37)); simpa only [World.size_alloc] using this, Nat.le_refl _, by omega, by omega, by omega, by omega⟩)
      clear h hlt
      go_enter Try.func37, Try.ntmps37
      go_upto_region 1 with (fail)
      rw [zero_lt]
      generalize ((w.alloc (.cells #[.bool false, .bool false, .bool false, .bool false, .bool false, .bool true, .bool false] 67)).alloc (.cells (ltC (bare0 k f t)) 37)).alloc (.cells (ltC zeroLt) 37) = w1 at ZM ⊢
      obtain ⟨f0, f1, f2, f3, f4, f5, f6⟩ := flags7 ZM.out.f
      go_upto_region 13 with (fail)
      have GD := hide (got_nums zs 7 i e)
      have ZD := hide (show Zm 99 w w1 B g zs (stN zs i e 0).1 (stN zs i e 0).2 #[.bool false, .bool false, .bool false, .bool false, .bool false, .bool true, .bool false] w.heap.size (w.heap.size + 1 + 1) (w.heap.size + 1) { bare0 k f t with d := fillD zs i e 7 0 } from ZM.out)
      clear ZM f0 f1 f2 f3 f4 f5 f6
      go_wp2
      go_loopw [40] (fun j wr => ∃ n : Nat, n ≤ 7 ∧ j = .int .i64 n ∧ Hid (Zm 99 w wr B g zs (stN zs i e n).1 (stN zs i e n).2 #[.bool false, .bool false, .bool false, .bool false, .bool false, .bool true, .bool false] w.heap.size (w.heap.size + 1 + 1) (w.heap.size + 1) { bare0 k f t with d := fillD zs i e 7 n })) (fun j _ => 7 - (intOf j).toNat)
      case atStart => exact ⟨0, by omega, rfl, ZD⟩
      case round =>
        clear ZD
        obtain ⟨n, hn, rfl, ZM⟩ := hrel
        by_cases hlt : n < 7
        · have HN := hide (pnum_any ZM.out.k.r)
          have n7 : (n : Int) < 7 := by omega
          have n0 : (0 : Int) ≤ (n : Int) := by omega
          have HX := hide (fun (w' : World) (m : Lt) (s : Zm 99 w w' B g zs (stN zs i e (n + 1)).1 (stN zs i e (n + 1)).2 #[.bool false, .bool false, .bool false, .bool false, .bool false, .bool true, .bool false] w.heap.size (w.heap.size + 1 + 1) (w.heap.size + 1) m) (hm : m = { bare0 k f t with d := fillD zs i e 7 (n + 1) }) => (hm ▸ s : Zm 99 w w' B g zs (stN zs i e (n + 1)).1 (stN zs i e (n + 1)).2 #[.bool false, .bool false, .bool false, .bool false, .bool false, .bool true, .bool false] w.heap.size (w.heap.size + 1 + 1) (w.heap.size + 1) { bare0 k f t with d := fillD zs i e 7 (n + 1) }))
          have HS := hide (fillD_set (zs := zs) (i := i) (e := e) hlt)
          go_wp2_with (first
            | (go_at_call 36; (with_reducible refine HN.out.mono ?_); rintro x w3 ⟨rfl, hr, hg⟩; have ZM := hide (ZM.out.step hr hg); clear hr hg HN)
            | ((with_reducible refine wpList_store_ldk (k := n) (n := rNumV zs (stN zs i e n).1 (stN zs i e n).2) hlt ?_ ?_ ZM.out.c ?_); rfl; rfl; intro w4 hn hg; have ZM := hide (ZM.out.put hn hg); clear hn hg))
          have ZM2 := hide (HX.out _ _ (by rw [stN_last]; exact ZM.out) (by show ({ bare0 k f t with d := (fillD zs i e 7 n).set n (valN zs i e n) } : Lt) = _; rw [HS.out]))
          clear ZM HX HS
          go_roundw
          case rel => exact ⟨n + 1, by omega, by go_num, ZM2⟩
          case measure => simp [intOf]; omega
        · obtain rfl : n = 7 := by omega
          have n7 : ¬ (((7 : Nat) : Int) < 7) := by omega
          have ZM2 := hide (show Zm 99 w wr B g zs (stN zs i e 7).1 (stN zs i e 7).2 #[.bool false, .bool false, .bool false, .bool false, .bool false, .bool true, .bool false] w.heap.size (w.heap.size + 1 + 1) (w.heap.size + 1) { bare0 k f t with d := valsN zs i e 7 } from by have := ZM.out; rw [fillD_all] at this; exact this)
          clear ZM
          obtain ⟨f0, f1, f2, f3, f4, f5, f6⟩ := flags7 ZM2.out.f
          go_wp2_with (first
            | ((with_reducible refine wpList_load_lt ZM2.out.c.wf ?_ ?_ ZM2.out.c.all ?_); rfl; rfl)
            | ((with_reducible refine wpList_store_lw ZM2.out.c.wf ?_ ?_ ZM2.out.z ?_); rfl; rfl; intro w5 hn hg; have HF := hide (And.intro hn (ZM2.out.k.put hg ZM2.out.lr)); clear hn hg))
          exact bodyPost_ret (results_lt Try.results37 rfl HF.out.1) rfl (readG_of rfl HF.out.2 (by unfold dRest; exact (got_none (by rw [HK.out]; rfl)).bnd ((got_none (by rw [HK.out]; rfl)).bnd ((got_none (by rw [HK.out]; rfl)).bnd ((got_none (by rw [HK.out]; rfl)).bnd ((got_none (by rw [HK.out]; rfl)).bnd ((got_opt (by rw [HK.out]; rfl) (GD.out)).bnd ((got_none (by rw [HK.out]; rfl)).bnd (Got.ok _ _ _)))))))) HF.out.1.wf)
  · have hk : okK k = false := by simpa using hk
    rw [if_neg (by rw [hk]; decide), hC_none hk]
    clear hk
    have ZM := hide (show Zm 99 w (((w.alloc (.cells #[.bool false, .bool false, .bool false, .bool false, .bool false, .bool false, .bool false] 67)).alloc (.cells (ltC (bare0 k f t)) 37)).alloc (.cells (ltC zeroLt) 37)) B g zs i e #[.bool false, .bool false, .bool false, .bool false, .bool false, .bool false, .bool false] w.heap.size (w.heap.size + 1 + 1) (w.heap.size + 1) (bare0 k f t) from
      ⟨(((Rg.start h).alloc _).alloc _).alloc _, ((Row.new w 67 #[.bool false, .bool false, .bool false, .bool false, .bool false, .bool false, .bool false]).alloc _).alloc _, by have := LAt.new wf_zeroLt ((w.alloc (.cells #[.bool false, .bool false, .bool false, .bool false, .bool false, .bool false, .bool false] 67)).alloc (.cells (ltC (bare0 k f t)) 37)) 37; simpa only [World.size_alloc] using this,
        by have := (LAt.new HW.out (w.alloc (.cells #[.bool false, .bool false, .bool false, .bool false, .bool false, .bool false, .bool false] 67)) 37).kept ((Below.refl _ _).alloc (Nat.le_refl _) (.cells (ltC zeroLt) 37)); simpa only [World.size_alloc] using this, Nat.le_refl _, by omega, by omega, by omega, by omega⟩)
    clear h hlt
    go_enter Try.func37, Try.ntmps37
    go_upto_region 1 with (fail)
    rw [zero_lt]
    generalize ((w.alloc (.cells #[.bool false, .bool false, .bool false, .bool false, .bool false, .bool false, .bool false] 67)).alloc (.cells (ltC (bare0 k f t)) 37)).alloc (.cells (ltC zeroLt) 37) = w1 at ZM ⊢
    obtain ⟨f0, f1, f2, f3, f4, f5, f6⟩ := flags7 ZM.out.f
    go_wp2_with (first
      | ((with_reducible refine wpList_load_lt ZM.out.c.wf ?_ ?_ ZM.out.c.all ?_); rfl; rfl)
      | ((with_reducible refine wpList_store_lw ZM.out.c.wf ?_ ?_ ZM.out.z ?_); rfl; rfl; intro w5 hn hg; have HF := hide (And.intro hn (ZM.out.k.put hg ZM.out.lr)); clear hn hg))
    exact bodyPost_ret (results_lt Try.results37 rfl HF.out.1) rfl (readG_of rfl HF.out.2 (Got.ok _ _ _) HF.out.1.wf)
end Go.Proofs.Ytlnpfaoeockoiaa
