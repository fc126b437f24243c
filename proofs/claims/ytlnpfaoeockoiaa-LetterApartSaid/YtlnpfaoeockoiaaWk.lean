/- The program's Get of letters. Conditions: the bytes lie, their number has room. -/
import Derived.Test.YtlnpfaoeockoiaaWj
import Derived.Test.YtlnpfaoeockoiaaWa
import Derived.Deep.AppendLies
import Derived.Laws.OwnMore
import Derived.Deep.DeepAppendWide
import Derived.Laws.CopyOwn
import Derived.Test.YtlnpfaoeockoiaaWi
import Derived.Deep.Slices
import Derived.Deep.Fields
import Derived.ChangeSame
import Derived.Test.YtlnpfaoeockoiaaWh
namespace Go.Proofs.Ytlnpfaoeockoiaa
set_option maxRecDepth 100000
open Go.RowKit
theorem got_wrong {α : Type} {d : Rdm α} {e : Int} (he : e ≠ 0) (v : α) (i : Nat) : Got d e v i e := ⟨fun _ => rfl, fun h => absurd h he⟩
theorem Got.any {α β : Type} {d : Rdm α} {d2 : Rdm β} {e e' : Int} {v : α} {i' : Nat} (he : e ≠ 0) (h : Got d e v i' e') (u : β) : Got d2 e u i' e' := ⟨h.1, fun h0 => absurd h0 he⟩
theorem wpList_load_hd {ops : Array Oper} {rest : List Oper} {d : Option Tmp} {ty : TypeId} {ps : String} {af : Array Edge} {gd : Option (Nat × Bool)} {x : Operand} {a : Act} {w : World} {Q : Exit → Act → World → Prop} {b o : Nat} {k : Int}
    (hw : Region.wanted ({ dst := d, op := .load 67 x, type := ty, pos := ps, after := af, guard := gd } : Oper) (yielded ops a.tmps) = true) (hx : a.eval x = .pointer (some ⟨b, o, none⟩)) (R : w.rangeAt b o (hC k).toList) (h : wpList Try.prog ops Q rest (a.put d (.agg (hC k))) w) :
    wpList Try.prog ops Q ({ dst := d, op := .load 67 x, type := ty, pos := ps, after := af, guard := gd } :: rest) a w :=
  wpList_load_g hw hx R hd_under rfl hd_info h
theorem fill_k (k : Int) (w : World) : (Instr.build 37 #[(0, .int .i64 k)]).run Try.prog w = .ok (.agg (ltC (bare0 k 0 0))) w := by kernel_rfl
theorem fill_lz (w : World) : (Instr.build 37 #[]).run Try.prog w = .ok (.agg (ltC zeroLt)) w := by kernel_rfl
theorem lt_allc (m : Lt) : (ltC m).all (·.oneCell') = true := all_oneCell_toArray (one_lt m)
/-- What Get answers. -/
def GetsLt (w : World) (zs : List Int) (y : Ending) (w' : World) : Prop := ∃ m x, y = .returned (.tuple #[.agg (ltC m), .int .i64 x]) ∧ decLt zs = (m, x) ∧ LtWf m ∧ Below w.heap.size w w'
/-- While a letter is read by a reader of the call's own: the answer's block, the reader's, the letter's. -/
structure Zo (t : TypeId) (W w : World) (B g : Nat) (zs : List Int) (i : Nat) (e : Int) (r h : Nat) (m : Lt) : Prop where
  k : Rdr t w B g zs i e
  old : Below W.heap.size W w
  z : LAt w r 37 zeroLt
  c : LAt w h 37 m
  lr : W.heap.size ≤ r
  rg : r < g
  gh : g < h
section
variable {t : TypeId} {W w w' : World} {B g i i' r h : Nat} {zs : List Int} {e e' : Int} {m m' : Lt}
theorem Zo.step (s : Zo t W w B g zs i e r h m) (hr : Rdr t w' B g zs i' e') (hg : w.grownBy w' (some g)) : Zo t W w' B g zs i' e' r h m :=
  have h1 := s.lr
  have h2 := s.rg
  have h3 := s.gh
  ⟨hr, below_own s.old hg (by omega), s.z.other hg (by omega), s.c.other hg (by omega), h1, h2, h3⟩
theorem Zo.quiet (s : Zo t W w B g zs i e r h m) (hb : Below w.heap.size w w') : Zo t W w' B g zs i e r h m := ⟨s.k.below hb, kept_trans s.old hb, s.z.kept hb, s.c.kept hb, s.lr, s.rg, s.gh⟩
theorem Zo.put (s : Zo t W w B g zs i e r h m) (hc : LAt w' h 37 m') (hg : w.grownBy w' (some h)) : Zo t W w' B g zs i e r h m' :=
  have h1 := s.lr
  have h2 := s.rg
  have h3 := s.gh
  have h4 := s.k.low
  ⟨s.k.far hg (by omega) (by omega), below_own s.old hg (by omega), s.z.other hg (by omega), hc, h1, h2, h3⟩
theorem Zo.wrong (s : Zo t W w B g zs i e r h m) : Zo t W (w.setCell ⟨g, 2, none⟩ (.int .i64 4)) B g zs i 4 r h m := s.step (s.k.wrong (by omega)) (grown_set1 _ _ _ _)
/-- The answer is written. -/
theorem Zo.done (s : Zo t W w B g zs i e r h m) (hg : w.grownBy w' (some r)) : Below W.heap.size W w' := below_own s.old hg s.lr
end
set_option maxHeartbeats 16000000 in
theorem pgetlt_any (A : Option Addr) (n c : Nat) (zs : List Int) (w : World) (hn : zs.length = n) (hz : Lies w A zs) (ho : Octets zs) (hc : A = none → c = 0) (ln : n ≤ 140737488355328) :
    Calls Try.prog 11 #[.slice A n c] w (GetsLt w zs) := by
  have HL := hide (LAt.new wf_zeroLt w 37)
  have HB := hide ((Below.refl w.heap.size w).alloc (Nat.le_refl _) (.cells (ltC zeroLt) 37))
  have HC := hide (pread_any A n c zs (w.alloc (.cells (ltC zeroLt) 37)) hn (hz.alloc _) ho hc ln)
  have hs : w.heap.size < (w.alloc (.cells (ltC zeroLt) 37)).heap.size := by simp
  clear hz hn ho hc ln
  go_enter Try.func11, Try.ntmps11
  go_upto_region 1 with (fail)
  rw [zero_lt]
  generalize w.alloc (.cells (ltC zeroLt) 37) = w0 at HL HB HC hs ⊢
  go_upto_region 2 with (go_at_call 23; (with_reducible refine HC.out.mono ?_); rintro x w1 ⟨g, rfl, hg, hr, hb⟩; have HR := hide hr; have HG := hide (Nat.lt_of_lt_of_le hs hg); have HL := hide (HL.out.kept hb); have HB := hide (kept_trans HB.out hb); clear hr hg hb HC hs)
  have HN := hide (pnum_g HR.out)
  go_upto_region 3 with (first
    | (go_at_call 36; (with_reducible refine HN.out.mono ?_); rintro x w2 ⟨k, i1, e1, rfl, hr, hg, hd, hp⟩; have HL := hide (HL.out.other hg (by have := HG.out; omega)); have HB := hide (below_own HB.out hg (by have := HG.out; omega)); have HR := hide hr; have G1 := hide hd; clear hr hg hd hp HN)
    | ((with_reducible refine wpList_build_one (i := 0) (u := .int .i64 k) ?_ ?_ (fill_k k _) ?_); rfl; rfl)
    | ((with_reducible refine wpList_store_new (vs := ltC (bare0 k 0 0)) ?_ ?_ (lt_allc _) ?_ ?_ ?_); exact lt_info; rfl; rfl; rfl))
  try simp only [Act.put]
  have ZO := hide (show Zo 99 w (w2.alloc (.cells (ltC (bare0 k 0 0)) 37)) g g zs i1 e1 w.heap.size w2.heap.size (bare0 k 0 0) from
    ⟨HR.out.alloc _, HB.out.alloc HB.out.size _, HL.out.kept ((Below.refl _ _).alloc (Nat.le_refl _) _), LAt.new ⟨rfl, rfl, rfl⟩ w2 _, Nat.le_refl _, HG.out, HR.out.lt⟩)
  clear HL HB HG HR
  generalize w2.alloc (.cells (ltC (bare0 k 0 0)) 37) = w3 at ZO ⊢
  generalize w2.heap.size = h at ZO ⊢
  have HN := hide (pnum_g ZO.out.k)
  go_upto_region 4 with (first
    | (go_at_call 36; (with_reducible refine HN.out.mono ?_); rintro x w4 ⟨f, i2, e2, rfl, hr, hg, hd, hp⟩; have ZO := hide (ZO.out.step hr hg); have G2 := hide hd; clear hr hg hd hp HN)
    | ((with_reducible refine wpList_store_lf (n := f) ?_ ?_ ZO.out.c ?_); rfl; rfl; intro w5 hn hg; have ZO := hide (ZO.out.put hn hg); clear hn hg))
  try simp only [Act.put]
  have HN := hide (pnum_g ZO.out.k)
  go_upto_region 5 with (first
    | (go_at_call 36; (with_reducible refine HN.out.mono ?_); rintro x w4 ⟨t, i3, e3, rfl, hr, hg, hd, hp⟩; have ZO := hide (ZO.out.step hr hg); have G3 := hide hd; clear hr hg hd hp HN)
    | ((with_reducible refine wpList_store_lt (n := t) ?_ ?_ ZO.out.c ?_); rfl; rfl; intro w5 hn hg; have ZO := hide (show Zo 99 w w5 g g zs i3 e3 w.heap.size h (bare0 k f t) from ZO.out.put hn hg); clear hn hg))
  try simp only [Act.put]
  have c0 := ZO.out.c.k1
  rw [show (bare0 k f t).k = k from rfl] at c0
  have HH := hide (fun w => holds_any k w)
  go_upto_region 6 with (first
    | (go_at_call 30; (with_reducible refine (HH.out _).mono ?_); rintro e w6 ⟨rfl, hb⟩; have ZO := hide (ZO.out.quiet hb); clear hb)
    | ((with_reducible refine wpList_store_new (vs := hC k) ?_ ?_ (hC_all _) ?_ ?_ ?_); exact hd_info; rfl; rfl; rfl))
  try simp only [Act.put]
  have HF := hide (Row.new w6 67 (hC k))
  have ZO := hide (ZO.out.quiet (w' := w6.alloc (.cells (hC k) 67)) ((Below.refl _ _).alloc (Nat.le_refl _) _))
  clear c0 HH
  generalize w6.alloc (.cells (hC k) 67) = w7 at ZO HF ⊢
  generalize w6.heap.size = fb at HF ⊢
  have HW := hide (pwrong_any ZO.out.k)
  by_cases hbad : e3 = 0 ∧ okK k = false
  · obtain ⟨he, ho⟩ := hbad
    subst he
    have HD := hide (show decLt zs = (zeroLt, 4) from by
      have hk : ¬ (1 ≤ k ∧ k ≤ 11) := by unfold okK at ho; simpa using ho
      have t3 : Got (if 1 ≤ k ∧ k ≤ 11 then (.ok ((k, f, t), i3) : Rdm (Int × Int × Int)) else .error 4) 0 (k, f, t) i3 4 := by rw [if_neg hk]; exact ⟨fun h => absurd rfl h, fun _ => ⟨rfl, by decide⟩⟩
      have H : Got (dKind zs 0) 0 (k, f, t) i3 4 := G1.out.bnd (G2.out.bnd (G3.out.bnd t3))
      have H2 : Got (dLt0 zs 0) 0 zeroLt i3 4 := by rw [dLt0_eq]; exact H.bnd (got_wrong (by decide) _ _)
      rw [got_end H2]
      have e4 : rEndE zs i3 4 = 4 := by unfold rEndE; rw [if_neg (by decide)]
      rw [e4, if_neg (by decide)])
    rw [ho]
    clear ho
    go_wp2_with (first
      | (go_at_call 27; (with_reducible refine HW.out.mono ?_); rintro x w8 ⟨rfl, rfl⟩)
      | ((with_reducible refine wpList_build_no ?_ (fill_lz _) ?_); rfl)
      | ((with_reducible refine wpList_store_lw (y := zeroLt) wf_zeroLt ?_ ?_ ZO.out.z ?_); rfl; rfl; intro w9 hn hg; have HE := hide (And.intro hn (ZO.out.done hg)); clear hn hg))
    exact bodyPost_ret (results_lb Try.results11 rfl HE.out.1 rfl) rfl ⟨zeroLt, 4, rfl, HD.out, wf_zeroLt, HE.out.2⟩
  · have HK : Hid (Got (dKind zs 0) 0 (k, f, t) i3 e3) := by
      have t3 : Got (if 1 ≤ k ∧ k ≤ 11 then (.ok ((k, f, t), i3) : Rdm (Int × Int × Int)) else .error 4) e3 (k, f, t) i3 e3 := by
        by_cases he : e3 = 0
        · have hk : 1 ≤ k ∧ k ≤ 11 := by
            cases ho : okK k
            · exact absurd ⟨he, ho⟩ hbad
            · unfold okK at ho; simpa using ho
          rw [if_pos hk]
          exact Got.ok _ _ _
        · exact got_wrong he _ _
      exact G1.out.bnd (G2.out.bnd (G3.out.bnd t3))
    have HM : Hid (∀ m i' e', Got (if okK k then dRest k f t zs i3 else .ok (bare0 k f t, i3)) e3 m i' e' → Got (dLt0 zs 0) 0 m i' e') := fun m i' e' hm => by
      rw [dLt0_eq]
      refine HK.out.bnd ?_
      cases ho : okK k
      · have he : e3 ≠ 0 := fun he => hbad ⟨he, ho⟩
        exact hm.any he m
      · rw [if_pos ho] at hm
        exact hm
    have tb : ((e3 == 0) && !okK k) = false := by
      cases ho : okK k
      · have he : e3 ≠ 0 := fun he => hbad ⟨he, ho⟩
        have : (e3 == 0) = false := by simpa using he
        rw [this]; rfl
      · simp
    have HT := hide tb
    clear hbad tb HK G1 G2 G3
    obtain ⟨q, hq⟩ : ∃ q, (e3 == 0) = q := ⟨_, rfl⟩
    obtain ⟨o, ho⟩ : ∃ o, okK k = o := ⟨_, rfl⟩
    rw [hq, ho] at HT
    have HO := hide ho
    rw [ho]
    clear ho
    have HP := hide (fun (w : World) (h : Rdr 99 w g g zs i3 e3) => pread_g h k f t)
    have fin : Hid (q = false ∨ (q = true ∧ o = true)) := by
      have := HT.out
      cases q
      · exact .inl rfl
      · cases o
        · exact absurd this (by decide)
        · exact .inr ⟨rfl, rfl⟩
    clear HT
    rcases fin.out with hqf | ⟨hqt, hot⟩
    · subst hqf
      clear fin HO
      go_upto_region 8 with (go_at_call 27; (with_reducible refine HW.out.mono ?_); rintro x w8 ⟨rfl, rfl⟩)
      clear hq HW
      have HQ := hide (HP.out _ ZO.out.k)
      go_upto_region 9 with (first
        | ((with_reducible refine wpList_load_hd (k := k) ?_ ?_ (hC_range HF.out) ?_); rfl; rfl)
        | ((with_reducible refine wpList_load_lt ZO.out.c.wf ?_ ?_ ZO.out.c.all ?_); rfl; rfl)
        | (go_at_call 37; (with_reducible refine HQ.out.mono ?_); rintro x w8 ⟨m, i4, e4, rfl, hr, hg, hd, hp⟩; have ZO := hide (ZO.out.step hr hg); have GM := hide (HM.out _ _ _ hd); have WM := hide hp; clear hr hg hd hp)
        | ((with_reducible refine wpList_store_lw (y := m) WM.out ?_ ?_ ZO.out.c ?_); rfl; rfl; intro w9 hn hg; have ZO := hide (ZO.out.put hn hg); clear hn hg))
      try simp only [Act.put]
      clear HQ HF HP HM
      have HE := got_end GM.out
      have hN := pend_any ZO.out.k
      obtain ⟨E, hE⟩ : ∃ E, rEndE zs i4 e4 = E := ⟨_, rfl⟩
      rw [hE] at HE hN
      have HN := hide hN
      clear hN hE GM
      by_cases h0 : E = 0
      · subst h0
        rw [if_pos rfl] at HE
        go_upto_region 12 with (go_at_call 29; (with_reducible refine HN.out.mono ?_); rintro x w10 ⟨rfl, hr, hg⟩; have ZO := hide (ZO.out.step hr hg); clear hr hg HN)
        have HR := fun w => pright_letter m WM.out w
        cases hq : rightLt m
        · rw [hq, if_neg (by decide)] at HE
          simp only [hq] at HR
          have HD := hide HE
          clear hq HE
          go_wp2_with (first
            | ((with_reducible refine wpList_load_lt ZO.out.c.wf ?_ ?_ ZO.out.c.all ?_); rfl; rfl)
            | (go_at_call 16; (with_reducible refine (HR _).mono ?_); rintro x w11 ⟨rfl, hb⟩; have ZO := hide (ZO.out.quiet hb); clear hb)
            | ((with_reducible refine wpList_build_no ?_ (fill_lz _) ?_); rfl)
            | ((with_reducible refine wpList_store_lw (y := zeroLt) wf_zeroLt ?_ ?_ ZO.out.z ?_); rfl; rfl; intro w12 hn hg; have HF := hide (And.intro hn (ZO.out.done hg)); clear hn hg))
          exact bodyPost_ret (results_lb Try.results11 rfl HF.out.1 rfl) rfl ⟨zeroLt, 4, rfl, HD.out, wf_zeroLt, HF.out.2⟩
        · rw [hq, if_pos rfl] at HE
          simp only [hq] at HR
          have HD := hide HE
          clear hq HE
          go_wp2_with (first
            | ((with_reducible refine wpList_load_lt ZO.out.c.wf ?_ ?_ ZO.out.c.all ?_); rfl; rfl)
            | (go_at_call 16; (with_reducible refine (HR _).mono ?_); rintro x w11 ⟨rfl, hb⟩; have ZO := hide (ZO.out.quiet hb); clear hb)
            | ((with_reducible refine wpList_store_lw (y := m) WM.out ?_ ?_ ZO.out.z ?_); rfl; rfl; intro w12 hn hg; have HF := hide (And.intro hn (ZO.out.done hg)); clear hn hg))
          exact bodyPost_ret (results_lb Try.results11 rfl HF.out.1 rfl) rfl ⟨m, 0, rfl, HD.out, WM.out, HF.out.2⟩
      · rw [if_neg h0] at HE
        have t0 : (E != 0) = true := by simpa using h0
        have HD := hide HE
        clear h0 HE
        go_wp2_with (first
          | (go_at_call 29; (with_reducible refine HN.out.mono ?_); rintro x w10 ⟨rfl, hr, hg⟩; have ZO := hide (ZO.out.step hr hg); clear hr hg HN)
          | ((with_reducible refine wpList_build_no ?_ (fill_lz _) ?_); rfl)
          | ((with_reducible refine wpList_store_lw (y := zeroLt) wf_zeroLt ?_ ?_ ZO.out.z ?_); rfl; rfl; intro w12 hn hg; have HF := hide (And.intro hn (ZO.out.done hg)); clear hn hg))
        exact bodyPost_ret (results_lb Try.results11 rfl HF.out.1 rfl) rfl ⟨zeroLt, E, rfl, HD.out, wf_zeroLt, HF.out.2⟩
    · subst hqt hot
      clear fin HO
      go_upto_region 8 with (go_at_call 27; (with_reducible refine HW.out.mono ?_); rintro x w8 ⟨rfl, rfl⟩)
      clear hq HW
      have HQ := hide (HP.out _ ZO.out.k)
      go_upto_region 9 with (first
        | ((with_reducible refine wpList_load_hd (k := k) ?_ ?_ (hC_range HF.out) ?_); rfl; rfl)
        | ((with_reducible refine wpList_load_lt ZO.out.c.wf ?_ ?_ ZO.out.c.all ?_); rfl; rfl)
        | (go_at_call 37; (with_reducible refine HQ.out.mono ?_); rintro x w8 ⟨m, i4, e4, rfl, hr, hg, hd, hp⟩; have ZO := hide (ZO.out.step hr hg); have GM := hide (HM.out _ _ _ hd); have WM := hide hp; clear hr hg hd hp)
        | ((with_reducible refine wpList_store_lw (y := m) WM.out ?_ ?_ ZO.out.c ?_); rfl; rfl; intro w9 hn hg; have ZO := hide (ZO.out.put hn hg); clear hn hg))
      try simp only [Act.put]
      clear HQ HF HP HM
      have HE := got_end GM.out
      have hN := pend_any ZO.out.k
      obtain ⟨E, hE⟩ : ∃ E, rEndE zs i4 e4 = E := ⟨_, rfl⟩
      rw [hE] at HE hN
      have HN := hide hN
      clear hN hE GM
      by_cases h0 : E = 0
      · subst h0
        rw [if_pos rfl] at HE
        go_upto_region 12 with (go_at_call 29; (with_reducible refine HN.out.mono ?_); rintro x w10 ⟨rfl, hr, hg⟩; have ZO := hide (ZO.out.step hr hg); clear hr hg HN)
        have HR := fun w => pright_letter m WM.out w
        cases hq : rightLt m
        · rw [hq, if_neg (by decide)] at HE
          simp only [hq] at HR
          have HD := hide HE
          clear hq HE
          go_wp2_with (first
            | ((with_reducible refine wpList_load_lt ZO.out.c.wf ?_ ?_ ZO.out.c.all ?_); rfl; rfl)
            | (go_at_call 16; (with_reducible refine (HR _).mono ?_); rintro x w11 ⟨rfl, hb⟩; have ZO := hide (ZO.out.quiet hb); clear hb)
            | ((with_reducible refine wpList_build_no ?_ (fill_lz _) ?_); rfl)
            | ((with_reducible refine wpList_store_lw (y := zeroLt) wf_zeroLt ?_ ?_ ZO.out.z ?_); rfl; rfl; intro w12 hn hg; have HF := hide (And.intro hn (ZO.out.done hg)); clear hn hg))
          exact bodyPost_ret (results_lb Try.results11 rfl HF.out.1 rfl) rfl ⟨zeroLt, 4, rfl, HD.out, wf_zeroLt, HF.out.2⟩
        · rw [hq, if_pos rfl] at HE
          simp only [hq] at HR
          have HD := hide HE
          clear hq HE
          go_wp2_with (first
            | ((with_reducible refine wpList_load_lt ZO.out.c.wf ?_ ?_ ZO.out.c.all ?_); rfl; rfl)
            | (go_at_call 16; (with_reducible refine (HR _).mono ?_); rintro x w11 ⟨rfl, hb⟩; have ZO := hide (ZO.out.quiet hb); clear hb)
            | ((with_reducible refine wpList_store_lw (y := m) WM.out ?_ ?_ ZO.out.z ?_); rfl; rfl; intro w12 hn hg; have HF := hide (And.intro hn (ZO.out.done hg)); clear hn hg))
          exact bodyPost_ret (results_lb Try.results11 rfl HF.out.1 rfl) rfl ⟨m, 0, rfl, HD.out, WM.out, HF.out.2⟩
      · rw [if_neg h0] at HE
        have t0 : (E != 0) = true := by simpa using h0
        have HD := hide HE
        clear h0 HE
        go_wp2_with (first
          | (go_at_call 29; (with_reducible refine HN.out.mono ?_); rintro x w10 ⟨rfl, hr, hg⟩; have ZO := hide (ZO.out.step hr hg); clear hr hg HN)
          | ((with_reducible refine wpList_build_no ?_ (fill_lz _) ?_); rfl)
          | ((with_reducible refine wpList_store_lw (y := zeroLt) wf_zeroLt ?_ ?_ ZO.out.z ?_); rfl; rfl; intro w12 hn hg; have HF := hide (And.intro hn (ZO.out.done hg)); clear hn hg))
        exact bodyPost_ret (results_lb Try.results11 rfl HF.out.1 rfl) rfl ⟨zeroLt, E, rfl, HD.out, wf_zeroLt, HF.out.2⟩
end Go.Proofs.Ytlnpfaoeockoiaa
/- Slices of structs, m cells each, as lists of lists of cells: what a slice reads as, and that it stays; append of one; copy. Conditions: it has room. No program is spoken of. -/
namespace Go.Proofs.Ytlnpfaoeockoiaa
set_option maxRecDepth 100000
open Go.RowKit
/-- So many structs as cells, one behind the other. -/
def cellsV (l : List (List Value)) : List Value := l.flatten
/-- Each has m cells, each of them one. -/
def AllV (m : Nat) (l : List (List Value)) : Prop := ∀ x, x ∈ l → x.length = m ∧ ∀ u ∈ x, u.oneCell' = true
/-- From address A on there lie the structs l, m cells each, below the heap's end. -/
def Els (m : Nat) (w : World) (A : Option Addr) (l : List (List Value)) : Prop :=
  0 < l.length → ∃ b off, A = some ⟨b, off, none⟩ ∧ b < w.heap.size ∧ ∀ k x, l[k]? = some x → ∀ i, i < m → w.cell? ⟨b, off + k * m + i, none⟩ = x[i]?
section
variable {m : Nat} {l : List (List Value)}
theorem AllV.nil_ : AllV m [] := fun _ h => by cases h
theorem AllV.at_ (h : AllV m l) {k : Nat} {x : List Value} (hk : l[k]? = some x) : x.length = m := (h x (List.mem_of_getElem? hk)).1
theorem AllV.take (h : AllV m l) (n : Nat) : AllV m (l.take n) := fun x hx => h x (List.mem_of_mem_take hx)
theorem AllV.drop (h : AllV m l) (n : Nat) : AllV m (l.drop n) := fun x hx => h x (List.mem_of_mem_drop hx)
theorem AllV.append {l' : List (List Value)} (h : AllV m l) (k : AllV m l') : AllV m (l ++ l') := fun x hx => (List.mem_append.1 hx).elim (h x) (k x)
theorem cellsV_cons (x : List Value) (l : List (List Value)) : cellsV (x :: l) = x ++ cellsV l := rfl
theorem cellsV_append (l l' : List (List Value)) : cellsV (l ++ l') = cellsV l ++ cellsV l' := by unfold cellsV; exact List.flatten_append
theorem length_cellsV : ∀ {l : List (List Value)}, AllV m l → (cellsV l).length = l.length * m
  | [], _ => by simp [cellsV]
  | x :: r, h => by
    rw [cellsV_cons, List.length_append, (h x (by simp)).1, length_cellsV fun y hy => h y (by simp [hy]), List.length_cons, Nat.add_mul, Nat.one_mul, Nat.add_comm]
theorem cellsV_of : ∀ {l : List (List Value)} {k : Nat} {x : List Value}, AllV m l → l[k]? = some x → ∀ i, i < m → (cellsV l)[k * m + i]? = x[i]?
  | [], k, x, _, h => by simp at h
  | y :: r, 0, x, ha, h => fun i hi => by
    simp at h; subst h
    have hy : y.length = m := (ha y (by simp)).1
    rw [cellsV_cons, Nat.zero_mul, Nat.zero_add, List.getElem?_append_left (by rw [hy]; exact hi)]
  | y :: r, k + 1, x, ha, h => fun i hi => by
    have hy : y.length = m := (ha y (by simp)).1
    have := cellsV_of (l := r) (k := k) (x := x) (fun z hz => ha z (by simp [hz])) (by simpa using h) i hi
    rw [cellsV_cons, List.getElem?_append_right (by rw [hy, Nat.add_mul]; omega), hy]
    rw [show (k + 1) * m + i - m = k * m + i by rw [Nat.add_mul]; omega]
    exact this
theorem cellsV_get {j : Nat} {u : Value} (ha : AllV m l) (h : (cellsV l)[j]? = some u) : ∃ k x i, l[k]? = some x ∧ i < m ∧ j = k * m + i ∧ x[i]? = some u := by
  have hj : j < l.length * m := by
    rcases Nat.lt_or_ge j (cellsV l).length with h1 | h1
    · rwa [length_cellsV ha] at h1
    · rw [List.getElem?_eq_none h1] at h; cases h
  have hm : 0 < m := by
    rcases Nat.eq_zero_or_pos m with rfl | h0
    · omega
    · exact h0
  have hd : j / m < l.length := Nat.div_lt_of_lt_mul (by rw [Nat.mul_comm]; exact hj)
  have hx : l[j / m]? = some l[j / m] := List.getElem?_eq_getElem hd
  have e : j = j / m * m + j % m := by have := Nat.div_add_mod j m; rw [Nat.mul_comm] at this; exact this.symm
  have h0 := cellsV_of ha hx (j % m) (Nat.mod_lt _ hm)
  rw [← e, h] at h0
  exact ⟨_, _, _, hx, Nat.mod_lt _ hm, e, h0.symm⟩
theorem cellsV_one (ha : AllV m l) : ∀ u ∈ cellsV l, u.oneCell' = true := fun u hu => by
  unfold cellsV at hu
  obtain ⟨x, hx, hu⟩ := List.mem_flatten.1 hu
  exact (ha x hx).2 u hu
end
section
variable {m : Nat} {w w' : World} {A : Option Addr} {l : List (List Value)}
theorem Els.nil_ : Els m w A [] := fun h => absurd h (by simp)
theorem Els.none_ (h : Els m w none l) : l = [] := by
  rcases l with _ | ⟨x, r⟩
  · rfl
  · obtain ⟨_, _, e, _⟩ := h (by simp)
    cases e
theorem Els.at_ {k : Nat} {x : List Value} (h : Els m w A l) (hk : l[k]? = some x) : ∃ b off, A = some ⟨b, off, none⟩ ∧ b < w.heap.size ∧ ∀ i, i < m → w.cell? ⟨b, off + k * m + i, none⟩ = x[i]? := by
  have hl : k < l.length := by
    rcases Nat.lt_or_ge k l.length with h1 | h1
    · exact h1
    · rw [List.getElem?_eq_none h1] at hk; cases hk
  obtain ⟨b, off, e, hb, hc⟩ := h (by omega)
  exact ⟨b, off, e, hb, hc k x hk⟩
theorem Els.below (h : Els m w A l) (hb : Below w.heap.size w w') : Els m w' A l := fun hn => by
  obtain ⟨b, off, e, hlt, hc⟩ := h hn
  exact ⟨b, off, e, Nat.lt_of_lt_of_le hlt hb.size, fun k x hk i hi => (hb.cell (p := ⟨b, off + k * m + i, none⟩) hlt).trans (hc k x hk i hi)⟩
theorem Els.alloc (h : Els m w A l) (o : Obj) : Els m (w.alloc o) A l := h.below ((Below.refl _ _).alloc (Nat.le_refl _) o)
theorem Els.drewN (h : Els m w A l) (n : Nat) : Els m (w.drewN n) A l := h
theorem Els.drew (h : Els m w A l) : Els m w.drew A l := h
theorem Els.grown {row : Option Nat} (h : Els m w A l) (hg : w.grownBy w' row) (hne : ∀ a, A = some a → some a.block ≠ row) : Els m w' A l := fun hn => by
  obtain ⟨b, off, e, hlt, hc⟩ := h hn
  have hb := hne _ e
  exact ⟨b, off, e, Nat.lt_of_lt_of_le hlt hg.size, fun k x hk i hi => (hg.cell_far ⟨b, off + k * m + i, none⟩ hlt hb).trans (hc k x hk i hi)⟩
theorem Els.take (h : Els m w A l) (n : Nat) : Els m w A (l.take n) := fun hn => by
  obtain ⟨b, off, e, hlt, hc⟩ := h (by rw [List.length_take] at hn; omega)
  refine ⟨b, off, e, hlt, fun k x hk => ?_⟩
  rw [List.getElem?_take] at hk
  split at hk
  · exact hc k x hk
  · cases hk
/-- The rest of a slice from the i-th on: its address as the model reckons it. -/
def partV (m : Nat) (A : Option Addr) (c i : Nat) : Option Addr := if c = i then A else Option.map (fun x => x.add (i * m)) A
theorem Els.rest {c : Nat} (h : Els m w A l) (hc : l.length ≤ c) (i : Nat) : Els m w (partV m A c i) (l.drop i) := fun hn => by
  rw [List.length_drop] at hn
  obtain ⟨b, off, e, hlt, hcell⟩ := h (by omega)
  have hne : ¬ c = i := by omega
  unfold partV
  rw [if_neg hne, e]
  refine ⟨b, off + i * m, ?_, hlt, fun k x hk => ?_⟩
  · show some ((⟨b, off, none⟩ : Addr).add (i * m)) = _
    rw [Go.WideShapes.add_plain]
  · rw [List.getElem?_drop] at hk
    have := hcell _ _ hk
    rw [show off + i * m + k * m = off + (i + k) * m by rw [Nat.add_mul]; omega]
    exact this
theorem partV_none {c i : Nat} (h : A = none → c = 0) (k : partV m A c i = none) : c - i = 0 := by
  unfold partV at k
  split at k
  · omega
  · cases A with
    | none => rw [h rfl]; omega
    | some a => cases k
/-- A block that is just these. -/
theorem els_row {g : Nat} {t : TypeId} {cs : Array Value} (h : Row w g t cs) (ha : AllV m l) (hc : cs.toList = cellsV l) : Els m w (some ⟨g, 0, none⟩) l := fun _ =>
  ⟨g, 0, rfl, h.lt, fun k x hk i hi => by rw [h.cell, ← Array.getElem?_toList, hc, Nat.zero_add]; exact cellsV_of ha hk i hi⟩
/-- What an own slice holds lies. -/
theorem els_own {base : Nat} {e : TypeId} {n c : Nat} (h : w.ownsRow base e m (.slice A n c) n (cellsV l)) (ha : AllV m l) (hm : 0 < m) : Els m w A l ∧ l.length = n := by
  have hn : l.length = n := by
    have := h.1
    rw [length_cellsV ha] at this
    exact Nat.eq_of_mul_eq_mul_right hm this
  refine ⟨fun hp => ?_, hn⟩
  rcases h.2 with ⟨e, h0⟩ | ⟨g, cap, cur, e, hg, hh, q1, q2, q3, q4⟩
  · omega
  · injection e with e1 e2 e3
    subst e1
    refine ⟨g, 0, rfl, (Array.getElem?_eq_some_iff.1 hh).1, fun k x hk i hi => ?_⟩
    have h0 := cellsV_of ha hk i hi
    have hl : k < l.length := by
      rcases Nat.lt_or_ge k l.length with h1 | h1
      · exact h1
      · rw [List.getElem?_eq_none h1] at hk; cases hk
    have hlt : k * m + i < n * m := by
      have : (k + 1) * m ≤ n * m := Nat.mul_le_mul_right m (by omega)
      rw [Nat.add_mul] at this
      omega
    rw [← q4, List.getElem?_take_of_lt hlt, Array.getElem?_toList] at h0
    rw [cell_of_row w g _ cur _ (0, 0) hh, Nat.zero_add]; exact h0
theorem Els.cells {b off : Nat} (h : Els m w (some ⟨b, off, none⟩) l) (ha : AllV m l) : ∀ j u, (cellsV l)[j]? = some u → w.cell? ((⟨b, off, none⟩ : Addr).add j) = some u := fun j u hj => by
  obtain ⟨k, x, i, hk, hi, rfl, hu⟩ := cellsV_get ha hj
  obtain ⟨b', off', e, _, h0⟩ := h.at_ hk
  injection e with e
  injection e with e1 e2 _
  subst e1 e2
  rw [Go.WideShapes.add_plain, ← Nat.add_assoc, h0 i hi, hu]
/-- A slice that the call made: its form. -/
theorem els_own_form {base : Nat} {e : TypeId} {v : Value} {n : Nat} {xs : List Value} (h : w.ownsRow base e m v n xs) : ∃ A c, v = .slice A n c ∧ (A = none → c = 0) ∧ n ≤ c ∧ c ≤ maxLen ∧ (∀ a, A = some a → a.spot = none ∧ a.off = 0) := by
  rcases h.2 with ⟨rfl, rfl⟩ | ⟨g, cap, cur, rfl, _, _, hc, hm, _⟩
  · exact ⟨none, 0, rfl, fun _ => rfl, Nat.le_refl _, by unfold maxLen; omega, fun a h => by cases h⟩
  · exact ⟨_, cap, rfl, (fun h => by cases h), hc, hm, fun a h => by cases h; exact ⟨rfl, rfl⟩⟩
end
/-- append of a slice that lies, nil and empty too, onto an own one. -/
theorem run_append_els {P : Program} {w : World} {s : Nat} (base : Nat) (t ty e : TypeId) (i : TypeInfo) (z : Value) (by' : Nat) (ht : P.underlying t = some (.slice e)) (hi : P.info? e = some i) (hz : i.zero = some z) (hsize : i.size = s) (hby : i.bytes = by') (hs0 : 0 < s) (hzs : z.cells.size = s)
    (v : Value) (n : Nat) (xs : List (List Value)) (hown : w.ownsRow base e s v n (cellsV xs))
    (A : Option Addr) (m c : Nat) (zs : List (List Value)) (ha : AllV s zs) (hm : zs.length = m) (hc : A = none → c = 0) (hl : Els s w A zs) (hb : (n + m) * by' ≤ 140737488355328) (hb2 : n + m ≤ 140737488355328) (hbase : base ≤ w.heap.size) :
    ∃ v' w', (Builtin.append_ #[t, t] ty #[v, .slice A m c]).run P w = .ok v' w' ∧ w'.ownsRow base e s v' (n + m) (cellsV (xs ++ zs)) ∧ w.grownBy w' v.ownBlock ∧ (v' = .slice none 0 0 ↔ v = .slice none 0 0 ∧ m = 0) := by
  subst hm
  rcases A with _ | ad
  · obtain rfl := hl.none_
    obtain rfl := hc rfl
    exact ⟨v, w, run_append_owned_none (P := P) (w := w) base t ty e i s ht hi v n (cellsV xs) hown, by simpa using hown, grown_refl _ _, by simp⟩
  · have hsp : ∀ j u, (cellsV zs)[j]? = some u → w.cell? (ad.add j) = some u := fun j u hj => by
      rcases zs with _ | ⟨x, r⟩
      · cases hj
      · obtain ⟨b, off, e, _⟩ := hl (by simp)
        injection e with e
        subst e
        exact hl.cells ha j u hj
    obtain ⟨v', w', hr, h1, h2, h3⟩ := run_append_own (P := P) w base t ty e i z s by' ht hi hz hsize hby hzs hs0 v n (cellsV xs) hown ad zs.length c (cellsV zs) (length_cellsV ha) hsp (cellsV_one ha) (by unfold maxLen; omega) (by omega) hbase
    exact ⟨v', w', hr, by rw [cellsV_append]; exact h1, h2, h3⟩
theorem run_copy_els {P : Program} (w : World) (dT sT ty elem : TypeId) (g dLen dCap : Nat) (A : Option Addr) (n c m : Nat) (l : List (List Value)) (hu : P.underlying dT = some (.slice elem)) (hs : (P.info? elem).map (·.size) = some m)
    (cur : Array Value) (t : TypeId) (hg : w.heap[g]? = some (.cells cur t (0, 0))) (hn : l.length = n) (hfit : n ≤ dLen) (hsz : n * m ≤ cur.size) (ha : AllV m l) (hl : Els m w A l) :
    (Builtin.copy_ #[dT, sT] ty #[.slice (some ⟨g, 0, none⟩) dLen dCap, .slice A n c]).run P w = .ok (goInt n) (w.setRow g (cellsV l ++ cur.toList.drop (n * m)).toArray) := by
  have hlen : (cellsV l).length = n * m := by rw [length_cellsV ha, hn]
  have h1 := cellsV_one ha
  have hmin : Nat.min n dLen = n := Nat.min_eq_left hfit
  have hst := run_storeCells_at P g 0 t (cellsV l) 0 cur w hg (by rw [hlen]; omega) h1
  rw [Nat.zero_add, Nat.zero_add, List.take_zero, List.nil_append, hlen] at hst
  cases hq : P.info? elem with
  | none => simp [hq] at hs
  | some i =>
    have hi : i.size = m := by simpa [hq] using hs
    cases A with
    | some a =>
      have hsrc : ∀ j v, (cellsV l)[j]? = some v → w.cell? (a.add j) = some v := fun j v hj => by
        have hp : 0 < l.length := by
          rcases Nat.eq_zero_or_pos l.length with h0 | h0
          · obtain rfl := List.eq_nil_of_length_eq_zero h0
            simp [cellsV] at hj
          · exact h0
        obtain ⟨b, off, e, _, _⟩ := hl hp
        injection e with e
        subst e
        exact hl.cells ha j v hj
      have hld := run_loadCells_list (P := P) w a (cellsV l) hsrc
      rw [hlen] at hld
      simp [Builtin.copy_, run_underlying hu, Builtin.lenOf, Builtin.firstCells, sizeOf, typeInfo, hq, hi, hmin, hld, hst]
    | none =>
      have h0 : n = 0 := by
        rcases Nat.eq_zero_or_pos n with h0 | h0
        · exact h0
        · obtain ⟨b, off, e, _⟩ := hl (by omega)
          cases e
      have e0 : l = [] := List.eq_nil_of_length_eq_zero (by omega)
      subst h0
      rw [e0] at hst ⊢
      simp [cellsV] at hst ⊢
      simp [Builtin.copy_, run_underlying hu, Builtin.lenOf, Builtin.firstCells, sizeOf, typeInfo, hq, hst]
/-- append of one that lies, onto an own one, in the walk. -/
theorem wpList_append_els {P : Program} {w : World} {ops : Array Oper} {rest : List Oper} {o : Oper} {a : Act} {Q : Exit → Act → World → Prop} (hgd : o.guard = none) (s x : Operand) (t : TypeId)
    (ho : o.op = .call { callee := .builtin .append, args := #[s, x], argTypes := #[t, t] }) {sz : Nat}
    (base : Nat) (e : TypeId) (i : TypeInfo) (z : Value) (by' : Nat) (ht : P.underlying t = some (.slice e)) (hi : P.info? e = some i) (hz : i.zero = some z) (hsize : i.size = sz) (hby : i.bytes = by') (hs0 : 0 < sz) (hzs : z.cells.size = sz)
    (v : Value) (n : Nat) (xs : List (List Value)) (hs : a.eval s = v) (hown : w.ownsRow base e sz v n (cellsV xs))
    (A : Option Addr) (m c : Nat) (zs : List (List Value)) (hx : a.eval x = .slice A m c) (ha : AllV sz zs) (hm : zs.length = m) (hc : A = none → c = 0) (hl : Els sz w A zs) (hb : (n + m) * by' ≤ 140737488355328) (hb2 : n + m ≤ 140737488355328) (hbase : base ≤ w.heap.size)
    (h : ∀ v' w', w'.ownsRow base e sz v' (n + m) (cellsV (xs ++ zs)) → w.grownBy w' v.ownBlock → wpList P ops Q rest (a.put o.dst v') w') : wpList P ops Q (o :: rest) a w := by
  refine wpList_plain hgd fun K hK => ?_
  obtain ⟨v', w', hr, h2, h3, _⟩ := run_append_els (P := P) (w := w) base t o.type e i z by' ht hi hz hsize hby hs0 hzs v n xs hown A m c zs ha hm hc hl hb hb2 hbase
  unfold Oper.wp execOp
  simp only [ho, resolve, invoke, builtin, Sem.run_bind, Sem.run_pure, Result.andThen_ok, List.map_toArray, List.map_cons, List.map_nil, hs, hx, hr]
  exact hK _ _ (h v' w' h2 h3)
theorem step_append_els {P : Program} {w : World} {ops : Array Oper} {o : Oper} {a : Act} {K : Act → World → Prop} {Q : Exit → Act → World → Prop} {E : Prop} {sz : Nat} (hgd : o.guard = none) (s x : Operand) (t : TypeId)
    (ho : o.op = .call { callee := .builtin .append, args := #[s, x], argTypes := #[t, t] })
    (base : Nat) (e : TypeId) (i : TypeInfo) (z : Value) (by' : Nat) (ht : P.underlying t = some (.slice e)) (hi : P.info? e = some i) (hz : i.zero = some z) (hsize : i.size = sz) (hby : i.bytes = by') (hs0 : 0 < sz) (hzs : z.cells.size = sz)
    (v : Value) (n : Nat) (xs : List (List Value)) (hs : a.eval s = v) (hown : w.ownsRow base e sz v n (cellsV xs))
    (A : Option Addr) (m c : Nat) (zs : List (List Value)) (hx : a.eval x = .slice A m c) (ha : AllV sz zs) (hm : zs.length = m) (hc : A = none → c = 0) (hl : Els sz w A zs) (hb : (n + m) * by' ≤ 140737488355328) (hb2 : n + m ≤ 140737488355328) (hbase : base ≤ w.heap.size)
    (h : ∀ v' w', w'.ownsRow base e sz v' (n + m) (cellsV (xs ++ zs)) → w.grownBy w' v.ownBlock → K (a.put o.dst v') w') :
    if Region.wanted o (yielded ops a.tmps) = true then Oper.wp P o a w K Q else E := by
  have hw : Region.wanted o (yielded ops a.tmps) = true := by simp [Region.wanted, hgd]
  rw [if_pos hw]
  obtain ⟨v', w', hr, h2, h3, _⟩ := run_append_els (P := P) (w := w) base t o.type e i z by' ht hi hz hsize hby hs0 hzs v n xs hown A m c zs ha hm hc hl hb hb2 hbase
  unfold Oper.wp execOp
  simp only [ho, resolve, invoke, builtin, Sem.run_bind, Sem.run_pure, Result.andThen_ok, List.map_toArray, List.map_cons, List.map_nil, hs, hx, hr]
  exact h v' w' h2 h3
end Go.Proofs.Ytlnpfaoeockoiaa
/- Letters and cells as they come in. No condition. -/
namespace Go.Proofs.Ytlnpfaoeockoiaa
set_option maxRecDepth 100000
open Go.ChangeShapes Go.WideShapes Go.ChangeAt Go.RowKit Go.Joins
theorem cells_bool : Try.prog.cellsOf 4 = 1 := by kernel_rfl
theorem cells_str : Try.prog.cellsOf 9 = 1 := by kernel_rfl
theorem cells_cm : Try.prog.cellsOf 29 = 7 := by kernel_rfl
theorem cells_bal : Try.prog.cellsOf 27 = 2 := by kernel_rfl
theorem cells_inst : Try.prog.cellsOf 25 = 2 := by kernel_rfl
theorem cells_cell : Try.prog.cellsOf 35 = 21 := by kernel_rfl
theorem cells_lt : Try.prog.cellsOf 37 = 51 := by kernel_rfl
theorem list_of {α : Type} {p : Nat → α → Prop} : ∀ n, (∀ j, j < n → ∃ y, p j y) → ∃ l : List α, l.length = n ∧ ∀ j y, l[j]? = some y → p j y
  | 0, _ => ⟨[], rfl, fun j y h => by simp at h⟩
  | n + 1, h => by
    obtain ⟨l, hl, hp⟩ := list_of n (fun j hj => h j (by omega))
    obtain ⟨y, hy⟩ := h n (by omega)
    refine ⟨l ++ [y], by simp [hl], fun j z hz => ?_⟩
    rcases Nat.lt_or_ge j n with h1 | h1
    · rw [List.getElem?_append_left (by omega)] at hz; exact hp j z hz
    · rw [List.getElem?_append_right (by omega), hl] at hz
      have h2 : j = n := by
        rcases Nat.eq_or_lt_of_le h1 with h2 | h2
        · exact h2.symm
        · rw [List.getElem?_eq_none (by simp; omega)] at hz; cases hz
      subst h2
      rw [Nat.sub_self] at hz
      have : y = z := by simpa using hz
      subst this; exact hy
/-- A slice of structs that came in: what each is read as, that they lie. -/
theorem els_in {α H : Type} {enc : TypeId × Value → H} {P : Program} {W : World} {t e : TypeId} {m by' : Nat} (f : α → List Value) (Ok : α → Prop) (hu : P.underlying t = some (.slice e)) (hc : P.cellsOf e = m) (hm0 : 0 < m) (hb : P.bytesOf e = by')
    (rd : ∀ {fuel : Nat} {cs : List Value} {x : DataW H × List MemPlace}, DataW.trod enc P W 0 (fun _ => true) true fuel e cs = some x → (∀ n ∈ x.1.weights P e, n ≤ reachBytes) → ∃ y : α, cs = f y ∧ Ok y)
    {A : Option Addr} {n c fuel : Nat} {x : DataW H × List MemPlace} (hf : DataW.trod enc P W 0 (fun _ => true) true fuel t [.slice A n c] = some x) (hw : ∀ n ∈ x.1.weights P t, n ≤ reachBytes) :
    ∃ l : List α, l.length = n ∧ n ≤ c ∧ c ≤ maxLen ∧ c * by' ≤ 140737488351232 ∧ (A = none → c = 0) ∧ (∀ y ∈ l, Ok y) ∧ Els m W A (l.map f) := by
  rcases Go.Deep.open_slice hu hf with ⟨hcs, _⟩ | ⟨a, len, cap, m', nf, D, Pl, hcs, _, hl, hm, hmm, hx, hi⟩
  · injection hcs with hcs _
    injection hcs with h1 h2 h3
    subst h1 h2 h3
    exact ⟨[], rfl, Nat.le_refl _, by unfold maxLen; omega, by omega, fun _ => rfl, fun _ h => absurd h (by simp), Els.nil_⟩
  · injection hcs with hcs _
    injection hcs with h1 h2 h3
    subst h1 h2 h3
    have hmc : m' = c := by simpa using hmm
    subst hmc
    have hx1 := congrArg Prod.fst hx
    dsimp only at hx1
    have hroom : m' * by' ≤ 140737488351232 := by
      have := hw ((((List.range n).map D).length + ((List.range (m' - n)).map fun j => D (n + j)).length) * P.bytesOf e) (by rw [hx1]; unfold DataW.weights; rw [hu]; exact List.mem_cons_self ..)
      rw [hb] at this
      simp only [List.length_map, List.length_range] at this
      rw [show n + (m' - n) = m' by omega] at this
      exact this
    have each : ∀ j, j < n → ∃ y : α, Ok y ∧ ∃ b off, a = ⟨b, off, none⟩ ∧ b < W.heap.size ∧ ∀ i, i < m → W.cell? ⟨b, off + j * m + i, none⟩ = (f y)[i]? := by
      intro j hj
      obtain ⟨cs', hc', ht'⟩ := hi j (by omega)
      rw [hc] at hc'
      obtain ⟨_, hlen, hat⟩ := World.cells?_some hc'
      obtain ⟨y, rfl, ok⟩ := rd ht' fun k hk => by
        apply hw
        rw [hx1]
        unfold DataW.weights
        rw [hu]
        refine List.mem_cons_of_mem _ (List.mem_append_left _ (weights_all (d := D j) ?_ k hk))
        exact List.mem_map.2 ⟨j, List.mem_range.2 hj, rfl⟩
      have hsp : a.spot = none := by
        obtain ⟨cs0, hc0, ht0⟩ := hi 0 (by omega)
        rw [hc] at hc0
        obtain ⟨_, hlen0, hat0⟩ := World.cells?_some hc0
        have h0 := hat0 0 (by omega)
        rw [List.getElem?_eq_getElem (by omega)] at h0
        have := World.cell?_spot h0
        unfold Addr.add at this
        simpa using this
      obtain ⟨b, off, spot⟩ := a
      obtain rfl : spot = none := hsp
      refine ⟨y, ok, b, off, rfl, ?_, fun i hi => ?_⟩
      · have a0 := hat 0 (by omega)
        rw [Go.WideShapes.add_plain, Go.WideShapes.add_plain, List.getElem?_eq_getElem (by omega)] at a0
        rcases Nat.lt_or_ge b W.heap.size with h1 | h1
        · exact h1
        · simp [World.cell?, Array.getElem?_eq_none h1] at a0
      · have a0 := hat i hi
        rw [Go.WideShapes.add_plain, Go.WideShapes.add_plain] at a0
        exact a0
    obtain ⟨l, hln, hl2⟩ := list_of n each
    refine ⟨l, hln, hl, hm, hroom, (fun h => by cases h), fun y hy => ?_, fun hp => ?_⟩
    · obtain ⟨j, hj⟩ := List.getElem?_of_mem hy
      exact (hl2 j y hj).1
    · rw [List.length_map] at hp
      obtain ⟨_, b, off, rfl, hb', _⟩ := hl2 0 l[0] (List.getElem?_eq_getElem hp)
      refine ⟨b, off, rfl, hb', fun k x hk i hi => ?_⟩
      rw [List.getElem?_map, Option.map_eq_some_iff] at hk
      obtain ⟨y, hy, rfl⟩ := hk
      obtain ⟨_, b2, off2, e2, _, h2⟩ := hl2 k y hy
      cases e2
      exact h2 i hi
section
variable {H : Type} {enc : TypeId × Value → H} {W : World} {base : Nat} {spare : Nat → Bool} {held : Bool}
theorem int_cell {m : Nat} {c : Value} {y : DataW H × List MemPlace} (h : DataW.trod enc Try.prog W base spare held m 3 [c] = some y) : ∃ n, c = .int .i64 n ∧ I64 n := by
  obtain ⟨k, e0, _, w0⟩ := DataW.trod_int Try.underlying3 h
  simp at e0
  exact ⟨k, e0, wf_i64.1 w0⟩
theorem deps_cells {fuel : Nat} {cs : List Value} {x : DataW H × List MemPlace} (ht : DataW.trod enc Try.prog W base spare held fuel 31 cs = some x) : ∃ d1 d2 d3 d4 d5 d6 d7 : Int, cs = [.int .i64 d1, .int .i64 d2, .int .i64 d3, .int .i64 d4, .int .i64 d5, .int .i64 d6, .int .i64 d7] ∧ ∀ n, n ∈ [d1, d2, d3, d4, d5, d6, d7] → I64 n := by
  obtain ⟨ys, m, _, _, hlen, hyl, hfs⟩ := DataW.trod_array Try.underlying31 ht
  rw [cells_deps] at hlen
  obtain ⟨c0, c1, c2, c3, c4, c5, c6, rfl⟩ : ∃ c0 c1 c2 c3 c4 c5 c6, cs = [c0, c1, c2, c3, c4, c5, c6] := by
    match cs, hlen with
    | [c0, c1, c2, c3, c4, c5, c6], _ => exact ⟨c0, c1, c2, c3, c4, c5, c6, rfl⟩
  have each : ∀ i, i < 7 → ∃ c, ([c0, c1, c2, c3, c4, c5, c6] : List Value)[i]? = some c ∧ ∃ n, c = .int .i64 n ∧ I64 n := fun i hi => by
    have g := hfs i hi
    rw [cells_int, Nat.mul_one, List.getElem?_eq_getElem (by omega), List.drop_eq_getElem_cons (by simpa using hi)] at g
    exact ⟨_, List.getElem?_eq_getElem (by simpa using hi), int_cell g⟩
  obtain ⟨_, e0, d1, rfl, o1⟩ := each 0 (by omega)
  obtain ⟨_, e1, d2, rfl, o2⟩ := each 1 (by omega)
  obtain ⟨_, e2, d3, rfl, o3⟩ := each 2 (by omega)
  obtain ⟨_, e3, d4, rfl, o4⟩ := each 3 (by omega)
  obtain ⟨_, e4, d5, rfl, o5⟩ := each 4 (by omega)
  obtain ⟨_, e5, d6, rfl, o6⟩ := each 5 (by omega)
  obtain ⟨_, e6, d7, rfl, o7⟩ := each 6 (by omega)
  simp at e0 e1 e2 e3 e4 e5 e6
  subst e0 e1 e2 e3 e4 e5 e6
  refine ⟨d1, d2, d3, d4, d5, d6, d7, rfl, fun n hn => ?_⟩
  simp at hn
  rcases hn with rfl | rfl | rfl | rfl | rfl | rfl | rfl <;> assumption
theorem attr_cells {fuel : Nat} {cs : List Value} {x : DataW H × List MemPlace} (ht : DataW.trod enc Try.prog W base spare held fuel 33 cs = some x) : ∃ a0 a1 a2 a3 a4 a5 a6 a7 : Int, cs = [.int .i64 a0, .int .i64 a1, .int .i64 a2, .int .i64 a3, .int .i64 a4, .int .i64 a5, .int .i64 a6, .int .i64 a7] ∧ Ok8 [a0, a1, a2, a3, a4, a5, a6, a7] := by
  obtain ⟨ys, n', _, _, hlen, hyl, hfs⟩ := DataW.trod_struct Try.underlying33 ht
  rw [cells_attr] at hlen
  obtain ⟨c0, r, rfl, hr⟩ : ∃ c0 r, cs = c0 :: r ∧ r.length = 7 := by
    match cs, hlen with
    | c0 :: r, h => exact ⟨c0, r, rfl, by simpa using h⟩
  have g0 := hfs 0 _ rfl
  have g1 := hfs 1 _ rfl
  clear hfs
  change DataW.trod enc Try.prog W base spare held n' 3 (((c0 :: r).drop 0).take (Try.prog.cellsOf 3)) = _ at g0
  change DataW.trod enc Try.prog W base spare held n' 31 (((c0 :: r).drop 1).take (Try.prog.cellsOf 31)) = _ at g1
  have hyl2 : ys.length = 2 := hyl
  obtain ⟨y0, y1, rfl⟩ : ∃ y0 y1, ys = [y0, y1] := by
    match ys, hyl2 with
    | [y0, y1], _ => exact ⟨y0, y1, rfl⟩
  change _ = some y0 at g0
  change _ = some y1 at g1
  rw [cells_int] at g0
  rw [cells_deps, List.drop_succ_cons, List.drop_zero, List.take_of_length_le (by omega)] at g1
  obtain ⟨n, rfl, hn⟩ := int_cell (c := c0) g0
  obtain ⟨a1, a2, a3, a4, a5, a6, a7, rfl, hd⟩ := deps_cells g1
  refine ⟨n, a1, a2, a3, a4, a5, a6, a7, rfl, rfl, fun k hk => ?_⟩
  rcases List.mem_cons.1 hk with rfl | hk
  · exact hn
  · exact hd k hk
end
/-- What a letter's texts may be. -/
structure ClIn (x : Cl) : Prop where
  a : x.a.length = 8
  c : CmOk x.c
structure LtIn (m : Lt) : Prop where
  wf : LtWf m
  c : CmOk m.c
  x : CmOk m.x.c
  z : m.z.size ≤ 140737488351232
section
variable {H : Type} {enc : TypeId × Value → H} {W : World} {base : Nat} {spare : Nat → Bool} {held : Bool}
theorem pair_cells {T : TypeId} {fs : Array Field} (hu : Try.prog.underlying T = some (.struct fs)) (hT : Try.prog.cellsOf T = 2) (h0 : ∃ f0 f1, fs = #[f0, f1] ∧ f0.type = 3 ∧ f0.offset = 0 ∧ f1.type = 3 ∧ f1.offset = 1) {fuel : Nat} {cs : List Value} {x : DataW H × List MemPlace}
    (ht : DataW.trod enc Try.prog W base spare held fuel T cs = some x) : ∃ a b : Int, cs = [.int .i64 a, .int .i64 b] := by
  obtain ⟨f0, f1, rfl, t0, o0, t1, o1⟩ := h0
  obtain ⟨ys, n', _, _, hlen, hyl, hfs⟩ := DataW.trod_struct hu ht
  rw [hT] at hlen
  have hyl2 : ys.length = 2 := hyl
  obtain ⟨y0, y1, rfl⟩ : ∃ y0 y1, ys = [y0, y1] := by
    match ys, hyl2 with
    | [y0, y1], _ => exact ⟨y0, y1, rfl⟩
  obtain ⟨c0, c1, rfl⟩ : ∃ c0 c1, cs = [c0, c1] := by
    match cs, hlen with
    | [c0, c1], _ => exact ⟨c0, c1, rfl⟩
  have g0 := hfs 0 f0 rfl
  have g1 := hfs 1 f1 rfl
  rw [t0, o0, cells_int] at g0
  rw [t1, o1, cells_int] at g1
  change DataW.trod enc Try.prog W base spare held n' 3 [c0] = some y0 at g0
  change DataW.trod enc Try.prog W base spare held n' 3 [c1] = some y1 at g1
  obtain ⟨a, rfl, _⟩ := int_cell g0
  obtain ⟨b, rfl, _⟩ := int_cell g1
  exact ⟨a, b, rfl⟩
theorem bal_cells {fuel : Nat} {cs : List Value} {x : DataW H × List MemPlace} (ht : DataW.trod enc Try.prog W base spare held fuel 27 cs = some x) : ∃ a b : Int, cs = [.int .i64 a, .int .i64 b] :=
  pair_cells Try.underlying27 cells_bal ⟨_, _, rfl, rfl, rfl, rfl, rfl⟩ ht
theorem inst_cells {fuel : Nat} {cs : List Value} {x : DataW H × List MemPlace} (ht : DataW.trod enc Try.prog W base spare held fuel 25 cs = some x) : ∃ a b : Int, cs = [.int .i64 a, .int .i64 b] :=
  pair_cells Try.underlying25 cells_inst ⟨_, _, rfl, rfl, rfl, rfl, rfl⟩ ht
theorem attr8_cells {fuel : Nat} {cs : List Value} {x : DataW H × List MemPlace} (ht : DataW.trod enc Try.prog W base spare held fuel 33 cs = some x) : ∃ a : List Int, cs = cellsR a ∧ a.length = 8 := by
  obtain ⟨a0, a1, a2, a3, a4, a5, a6, a7, e, _⟩ := attr_cells ht
  exact ⟨[a0, a1, a2, a3, a4, a5, a6, a7], e, rfl⟩
theorem deps7_cells {fuel : Nat} {cs : List Value} {x : DataW H × List MemPlace} (ht : DataW.trod enc Try.prog W base spare held fuel 31 cs = some x) : ∃ a : List Int, cs = cellsR a ∧ a.length = 7 := by
  obtain ⟨a1, a2, a3, a4, a5, a6, a7, e, _⟩ := deps_cells ht
  exact ⟨[a1, a2, a3, a4, a5, a6, a7], e, rfl⟩
theorem drop_part (cs : List Value) (o n : Nat) : cs.drop o = (cs.drop o).take n ++ cs.drop (o + n) := by rw [← List.drop_drop, List.take_append_drop]
theorem cell_cells {fuel : Nat} {cs : List Value} {x : DataW H × List MemPlace} (ht : DataW.trod enc Try.prog W base spare held fuel 35 cs = some x) (hsz : ∀ n ∈ x.1.weights Try.prog 35, n ≤ reachBytes) : ∃ y : Cl, cs = y.l ∧ ClIn y := by
  obtain ⟨ys, n', _, rfl, hlen, hyl, hfs⟩ := DataW.trod_struct Try.underlying35 ht
  rw [cells_cell] at hlen
  have hyl6 : ys.length = 6 := hyl
  obtain ⟨y0, y1, y2, y3, y4, y5, rfl⟩ : ∃ y0 y1 y2 y3 y4 y5, ys = [y0, y1, y2, y3, y4, y5] := by
    match ys, hyl6 with
    | [y0, y1, y2, y3, y4, y5], _ => exact ⟨y0, y1, y2, y3, y4, y5, rfl⟩
  have g0 := hfs 0 _ rfl
  have g1 := hfs 1 _ rfl
  have g2 := hfs 2 _ rfl
  have g3 := hfs 3 _ rfl
  have g4 := hfs 4 _ rfl
  have g5 := hfs 5 _ rfl
  clear hfs
  change DataW.trod enc Try.prog W base spare held n' 3 ((cs.drop 0).take (Try.prog.cellsOf 3)) = some y0 at g0
  change DataW.trod enc Try.prog W base spare held n' 27 ((cs.drop 1).take (Try.prog.cellsOf 27)) = some y1 at g1
  change DataW.trod enc Try.prog W base spare held n' 27 ((cs.drop 3).take (Try.prog.cellsOf 27)) = some y2 at g2
  change DataW.trod enc Try.prog W base spare held n' 29 ((cs.drop 5).take (Try.prog.cellsOf 29)) = some y3 at g3
  change DataW.trod enc Try.prog W base spare held n' 33 ((cs.drop 12).take (Try.prog.cellsOf 33)) = some y4 at g4
  change DataW.trod enc Try.prog W base spare held n' 4 ((cs.drop 20).take (Try.prog.cellsOf 4)) = some y5 at g5
  rw [cells_int] at g0
  rw [cells_bal] at g1 g2
  rw [cells_cm] at g3
  rw [cells_attr] at g4
  rw [cells_bool] at g5
  obtain ⟨st, e0, _, _⟩ := DataW.trod_int Try.underlying3 g0
  obtain ⟨p1, p2, e1⟩ := bal_cells g1
  obtain ⟨v1, v2, e2⟩ := bal_cells g2
  obtain ⟨c, e3, hc⟩ := cmd_cells g3 fun n hn => by
    apply hsz
    unfold DataW.weights
    rw [Try.underlying35]
    exact DataW.weights_mem_each (ts := [3, 27, 27, 29, 33, 4]) (j := 3) rfl rfl n hn
  obtain ⟨a, e4, ha⟩ := attr8_cells g4
  obtain ⟨s, e5, _⟩ := DataW.trod_bool Try.underlying4 g5
  refine ⟨⟨st, (p1, p2), (v1, v2), c, a, s⟩, ?_, ha, hc⟩
  have h1 := drop_part cs 0 1
  rw [drop_part cs (0 + 1) 2, drop_part cs (0 + 1 + 2) 2, drop_part cs (0 + 1 + 2 + 2) 7, drop_part cs (0 + 1 + 2 + 2 + 7) 8, drop_part cs (0 + 1 + 2 + 2 + 7 + 8) 1, List.drop_zero, List.drop_of_length_le (show cs.length ≤ 0 + 1 + 2 + 2 + 7 + 8 + 1 by omega)] at h1
  rw [List.drop_zero] at e0
  rw [e0, e1, e2, e3, e4, e5] at h1
  rw [h1]
  unfold Cl.l
  simp
theorem letter_cells {fuel : Nat} {cs : List Value} {x : DataW H × List MemPlace} (ht : DataW.trod enc Try.prog W base spare held fuel 37 cs = some x) (hsz : ∀ n ∈ x.1.weights Try.prog 37, n ≤ reachBytes) : ∃ m : Lt, cs = m.l ∧ LtIn m := by
  obtain ⟨ys, n', _, rfl, hlen, hyl, hfs⟩ := DataW.trod_struct Try.underlying37 ht
  rw [cells_lt] at hlen
  have hyl10 : ys.length = 10 := hyl
  obtain ⟨y0, y1, y2, y3, y4, y5, y6, y7, y8, y9, rfl⟩ : ∃ y0 y1 y2 y3 y4 y5 y6 y7 y8 y9, ys = [y0, y1, y2, y3, y4, y5, y6, y7, y8, y9] := by
    match ys, hyl10 with
    | [y0, y1, y2, y3, y4, y5, y6, y7, y8, y9], _ => exact ⟨y0, y1, y2, y3, y4, y5, y6, y7, y8, y9, rfl⟩
  have g0 := hfs 0 _ rfl
  have g1 := hfs 1 _ rfl
  have g2 := hfs 2 _ rfl
  have g3 := hfs 3 _ rfl
  have g4 := hfs 4 _ rfl
  have g5 := hfs 5 _ rfl
  have g6 := hfs 6 _ rfl
  have g7 := hfs 7 _ rfl
  have g8 := hfs 8 _ rfl
  have g9 := hfs 9 _ rfl
  clear hfs
  change DataW.trod enc Try.prog W base spare held n' 3 ((cs.drop 0).take (Try.prog.cellsOf 3)) = some y0 at g0
  change DataW.trod enc Try.prog W base spare held n' 3 ((cs.drop 1).take (Try.prog.cellsOf 3)) = some y1 at g1
  change DataW.trod enc Try.prog W base spare held n' 3 ((cs.drop 2).take (Try.prog.cellsOf 3)) = some y2 at g2
  change DataW.trod enc Try.prog W base spare held n' 25 ((cs.drop 3).take (Try.prog.cellsOf 25)) = some y3 at g3
  change DataW.trod enc Try.prog W base spare held n' 27 ((cs.drop 5).take (Try.prog.cellsOf 27)) = some y4 at g4
  change DataW.trod enc Try.prog W base spare held n' 29 ((cs.drop 7).take (Try.prog.cellsOf 29)) = some y5 at g5
  change DataW.trod enc Try.prog W base spare held n' 33 ((cs.drop 14).take (Try.prog.cellsOf 33)) = some y6 at g6
  change DataW.trod enc Try.prog W base spare held n' 35 ((cs.drop 22).take (Try.prog.cellsOf 35)) = some y7 at g7
  change DataW.trod enc Try.prog W base spare held n' 31 ((cs.drop 43).take (Try.prog.cellsOf 31)) = some y8 at g8
  change DataW.trod enc Try.prog W base spare held n' 9 ((cs.drop 50).take (Try.prog.cellsOf 9)) = some y9 at g9
  rw [cells_int] at g0 g1 g2
  rw [cells_inst] at g3
  rw [cells_bal] at g4
  rw [cells_cm] at g5
  rw [cells_attr] at g6
  rw [cells_cell] at g7
  rw [cells_deps] at g8
  rw [cells_str] at g9
  obtain ⟨k, e0, _, _⟩ := DataW.trod_int Try.underlying3 g0
  obtain ⟨f, e1, _, _⟩ := DataW.trod_int Try.underlying3 g1
  obtain ⟨t, e2, _, _⟩ := DataW.trod_int Try.underlying3 g2
  obtain ⟨i1, i2, e3⟩ := inst_cells g3
  obtain ⟨b1, b2, e4⟩ := bal_cells g4
  have hw : ∀ {j : Nat} {T : TypeId} {y : DataW H × List MemPlace}, [3, 3, 3, 25, 27, 29, 33, 35, 31, 9][j]? = some T → [y0, y1, y2, y3, y4, y5, y6, y7, y8, y9][j]? = some y → ∀ n ∈ y.1.weights Try.prog T, n ≤ reachBytes := fun hT hy n hn => by
    apply hsz
    unfold DataW.weights
    rw [Try.underlying37]
    exact DataW.weights_mem_each (ts := [3, 3, 3, 25, 27, 29, 33, 35, 31, 9]) hT (by rw [List.getElem?_map, hy]; rfl) n hn
  obtain ⟨c, e5, hc⟩ := cmd_cells g5 (hw (j := 5) rfl rfl)
  obtain ⟨a, e6, ha⟩ := attr8_cells g6
  obtain ⟨xc, e7, hx⟩ := cell_cells g7 (hw (j := 7) rfl rfl)
  obtain ⟨d, e8, hd⟩ := deps7_cells g8
  obtain ⟨z, e9, f9, _⟩ := DataW.trod_string Try.underlying9 g9
  have hz : z.size ≤ 140737488351232 := by
    have := hw (j := 9) rfl rfl z.data.toList.length (by rw [f9]; simp [DataW.weights])
    have hr : reachBytes = 140737488351232 := rfl
    rw [hr] at this
    exact this
  refine ⟨⟨k, f, t, (i1, i2), (b1, b2), c, a, xc, d, z⟩, ?_, ⟨ha, hx.a, hd⟩, hc, hx.c, hz⟩
  have h1 := drop_part cs 0 1
  rw [drop_part cs (0 + 1) 1, drop_part cs (0 + 1 + 1) 1, drop_part cs (0 + 1 + 1 + 1) 2, drop_part cs (0 + 1 + 1 + 1 + 2) 2, drop_part cs (0 + 1 + 1 + 1 + 2 + 2) 7, drop_part cs (0 + 1 + 1 + 1 + 2 + 2 + 7) 8, drop_part cs (0 + 1 + 1 + 1 + 2 + 2 + 7 + 8) 21, drop_part cs (0 + 1 + 1 + 1 + 2 + 2 + 7 + 8 + 21) 7, drop_part cs (0 + 1 + 1 + 1 + 2 + 2 + 7 + 8 + 21 + 7) 1, List.drop_zero, List.drop_of_length_le (show cs.length ≤ 0 + 1 + 1 + 1 + 2 + 2 + 7 + 8 + 21 + 7 + 1 by omega)] at h1
  rw [List.drop_zero] at e0
  rw [e0, e1, e2, e3, e4, e5, e6, e7, e8, e9] at h1
  rw [h1]
  unfold Lt.l
  simp
end
/-- A letter that came in. -/
theorem letter_in {H : Type} {enc : TypeId × Value → H} {W : World} {base b0 : Nat} {spare : Nat → Bool} {held : Bool} {r : Reach} {v : Value} {d : DataW H} {p : List MemPlace} {ts : List TypeId} {ds : List (DataW H)} {j : Nat}
    (hv : Value.okWide Try.prog W r b0 37 v) (h : DataW.Trod enc Try.prog W base spare held 37 v d p) (hsz : (DataW.weightsEach Try.prog ts ds).all (· ≤ reachBytes) = true) (ht : ts[j]? = some 37) (hd : ds[j]? = some d) :
    ∃ m : Lt, v = .agg (ltC m) ∧ LtIn m := by
  obtain ⟨cs, rfl, hcs⟩ := okWide_struct Try.underlying37 hv
  obtain ⟨fuel, hf⟩ := h
  obtain ⟨m, hy, ok⟩ := letter_cells hf fun n hn => by
    have := List.all_eq_true.1 hsz _ (DataW.weights_mem_each ht hd n hn)
    simpa using this
  have e : cs.toList = m.l := hy
  refine ⟨m, ?_, ok⟩
  obtain ⟨l⟩ := cs
  simp only at e
  rw [e]; rfl
/-- A slice of cells that came in. -/
structure ClsIn (w : World) (A : Option Addr) (n c : Nat) (l : List Cl) : Prop where
  len : l.length = n
  le : n ≤ c
  room : c ≤ 9223372036854775807
  ok : ∀ y ∈ l, ClIn y
  lies : Els 21 w A (l.map Cl.l)
theorem bytes_cell : Try.prog.bytesOf 35 = 200 := by kernel_rfl
theorem cls_in {H : Type} {enc : TypeId × Value → H} {W : World} {A : Option Addr} {n c : Nat} {d : DataW H} {p : List MemPlace} {ts : List TypeId} {ds : List (DataW H)} {j : Nat}
    (h : DataW.Trod enc Try.prog W 0 (fun _ => true) true 64 (.slice A n c) d p) (hsz : (DataW.weightsEach Try.prog ts ds).all (· ≤ reachBytes) = true) (ht : ts[j]? = some 64) (hd : ds[j]? = some d) : ∃ l, ClsIn W A n c l := by
  obtain ⟨fuel, hf⟩ := h
  obtain ⟨l, h1, h2, h3, _, _, h6, h7⟩ := els_in Cl.l ClIn Try.underlying64 cells_cell (by omega) bytes_cell (fun ht hw => cell_cells ht hw) hf (fun n hn => by
    have := List.all_eq_true.1 hsz _ (DataW.weights_mem_each ht hd n hn)
    simpa using this)
  exact ⟨l, h1, h2, by unfold maxLen at h3; omega, h6, h7⟩
end Go.Proofs.Ytlnpfaoeockoiaa
/- The laws' light; the chapter's runs. Conditions: a letter that came in. -/
namespace Go.Proofs.Ytlnpfaoeockoiaa
set_option maxRecDepth 100000
open Go.RowKit
def sizeC (c : Cm) : Nat := c.key.size + c.en.size + c.old.size + c.val.size
def lightN (m : Lt) : Nat := m.z.size + sizeC m.c + sizeC m.x.c
def lightB (m : Lt) : Bool := decide (lightN m < 5000)
theorem LAt.xc {w : World} {b : Nat} {t : TypeId} {m : Lt} (h : LAt w b t m) : w.rangeAt b 27 m.x.c.l := h.r.mid (A := m.hd ++ (m.c.l ++ (cellsR m.a ++ [.int .i64 m.x.st, .int .i64 m.x.p.1, .int .i64 m.x.p.2, .int .i64 m.x.v.1, .int .i64 m.x.v.2]))) (B := cellsR m.x.a ++ [.bool m.x.s] ++ (cellsR m.d ++ [.string m.z])) (by unfold ltC Lt.l Lt.hd Cl.l; simp) (by
  have h3 : m.c.l.length = 7 := rfl
  have h4 : m.hd.length = 7 := rfl
  simp only [List.length_append, length_cellsR, h.wf.a, h3, h4, List.length_cons, List.length_nil])
def cm14 (a b : Cm) : Array Value := #[.int .i64 a.k, .int .i64 a.c, .int .i64 a.q, .string a.key, .string a.en, .string a.old, .string a.val, .int .i64 b.k, .int .i64 b.c, .int .i64 b.q, .string b.key, .string b.en, .string b.old, .string b.val]
/-- What has been counted behind k commands. -/
theorem sizeC_le {c : Cm} (h : CmOk c) : sizeC c ≤ 562949953404928 := by have h1 := h.key; have h2 := h.en; have h3 := h.old; have h4 := h.val; unfold sizeC; omega
def lightTo (m : Lt) : Nat → Nat
  | 0 => m.z.size
  | 1 => m.z.size + sizeC m.c
  | _ => lightN m
set_option maxHeartbeats 8000000 in
theorem light_any (m : Lt) (ok : LtIn m) (w : World) : Calls Try.prog 12 #[.agg (ltC m)] w fun e w' => e = .returned (.bool (lightB m)) ∧ Below w.heap.size w w' := by
  have HL := hide (LAt.new ok.wf w 37)
  have HB := hide ((Below.refl w.heap.size w).alloc (Nat.le_refl _) (.cells (ltC m) 37))
  have hz := ok.z
  obtain ⟨_, _, _, n1, n2, n3, n4⟩ := ok.c
  obtain ⟨_, _, _, x1, x2, x3, x4⟩ := ok.x
  clear ok
  go_enter Try.func12, Try.ntmps12
  go_upto_region 1 with (fail)
  generalize w.alloc (.cells (ltC m) 37) = w1 at HL HB ⊢
  have c50 := HL.out.z
  go_wp2_with (first
    | ((with_reducible refine wpList_load_cm (y := m.c) ?_ ?_ HL.out.c ?_); rfl; rfl)
    | ((with_reducible refine wpList_load_cm (y := m.x.c) ?_ ?_ HL.out.xc ?_); rfl; rfl))
  have HR := hide (show Row (w1.alloc (.cells #[.int .i64 m.c.k, .int .i64 m.c.c, .int .i64 m.c.q, .string m.c.key, .string m.c.en, .string m.c.old, .string m.c.val, .int .i64 m.x.c.k, .int .i64 m.x.c.c, .int .i64 m.x.c.q, .string m.x.c.key, .string m.x.c.en, .string m.x.c.old, .string m.x.c.val] 29)) w1.heap.size 29 (cm14 m.c m.x.c) from Row.new w1 _ _)
  have HB := hide (HB.out.alloc HB.out.size (.cells #[.int .i64 m.c.k, .int .i64 m.c.c, .int .i64 m.c.q, .string m.c.key, .string m.c.en, .string m.c.old, .string m.c.val, .int .i64 m.x.c.k, .int .i64 m.x.c.c, .int .i64 m.x.c.q, .string m.x.c.key, .string m.x.c.en, .string m.x.c.old, .string m.x.c.val] 29))
  clear HL c50
  generalize w1.alloc (.cells #[.int .i64 m.c.k, .int .i64 m.c.c, .int .i64 m.c.q, .string m.c.key, .string m.c.en, .string m.c.old, .string m.c.val, .int .i64 m.x.c.k, .int .i64 m.x.c.c, .int .i64 m.x.c.q, .string m.x.c.key, .string m.x.c.en, .string m.x.c.old, .string m.x.c.val] 29) = w2 at HR HB ⊢
  generalize w1.heap.size = g at HR ⊢
  go_loopw [3, 16] (fun s i wr => ∃ k : Nat, k ≤ 2 ∧ i = .int .i64 k ∧ s = .int .i64 (lightTo m k : Nat) ∧ Hid (Row wr g 29 (cm14 m.c m.x.c)) ∧ Hid (Below w.heap.size w wr)) (fun _ i _ => 2 - (intOf i).toNat)
  case atStart => exact ⟨0, by omega, rfl, rfl, HR, HB⟩
  case round =>
    clear HR HB
    obtain ⟨k, hk, rfl, rfl, HR, HB⟩ := hrel
    obtain rfl | rfl | rfl : k = 0 ∨ k = 1 ∨ k = 2 := by omega
    · have e0 : lightTo m 0 = m.z.size := rfl
      rw [e0]
      have HS := hide (show lightTo m 1 = m.z.size + m.c.key.size + m.c.en.size + m.c.old.size + m.c.val.size by show m.z.size + sizeC m.c = _; unfold sizeC; omega)
      have c0 := HR.out.cell 0
      have c1 := HR.out.cell 1
      have c2 := HR.out.cell 2
      have c3 := HR.out.cell 3
      have c4 := HR.out.cell 4
      have c5 := HR.out.cell 5
      have c6 := HR.out.cell 6
      simp only [cm14] at c0 c1 c2 c3 c4 c5 c6
      have hlt := HR.out.lt
      go_wp2
      go_roundw
      case rel => exact ⟨1, by omega, by go_num, by rw [HS.out]; go_num, hide (HR.out.alloc _), hide (HB.out.alloc HB.out.size _)⟩
      case measure => simp [intOf]
    · obtain ⟨t1, ht1⟩ : ∃ t, lightTo m 1 = t := ⟨_, rfl⟩
      have hb1 : t1 ≤ 844424930107392 := by rw [← ht1]; show m.z.size + sizeC m.c ≤ _; unfold sizeC; omega
      have HS := hide (show lightTo m 2 = t1 + m.x.c.key.size + m.x.c.en.size + m.x.c.old.size + m.x.c.val.size by rw [← ht1]; show m.z.size + sizeC m.c + sizeC m.x.c = m.z.size + sizeC m.c + m.x.c.key.size + m.x.c.en.size + m.x.c.old.size + m.x.c.val.size; unfold sizeC; omega)
      rw [ht1]
      clear ht1
      have c7 := HR.out.cell 7
      have c8 := HR.out.cell 8
      have c9 := HR.out.cell 9
      have c10 := HR.out.cell 10
      have c11 := HR.out.cell 11
      have c12 := HR.out.cell 12
      have c13 := HR.out.cell 13
      simp only [cm14] at c7 c8 c9 c10 c11 c12 c13
      have hlt := HR.out.lt
      go_wp2
      go_roundw
      case rel => exact ⟨2, by omega, by go_num, by rw [HS.out]; go_num, hide (HR.out.alloc _), hide (HB.out.alloc HB.out.size _)⟩
      case measure => simp [intOf]
    · obtain ⟨t2, ht2⟩ : ∃ t, lightTo m 2 = t := ⟨_, rfl⟩
      have HS := hide (show decide ((t2 : Int) < 5000) = lightB m by rw [← ht2]; unfold lightB; exact decide_eq_decide.2 (by show ((lightN m : Nat) : Int) < 5000 ↔ _; omega))
      rw [ht2]
      clear ht2
      go_wp2
      go_ret
      exact ⟨ret_bool HS.out, HB.out⟩
end Go.Proofs.Ytlnpfaoeockoiaa
/- The chapter's runs. No condition. -/
namespace Go.Proofs.Ytlnpfaoeockoiaa
set_option maxRecDepth 100000
open Go.RowKit
def mA : Lt := { zeroLt with k := 6, t := 1, i := (2, 3), b := (4, 0) }
def mB : Lt := { zeroLt with k := 9, t := 1, d := [5, 0, 0, 0, 0, 0, 0] }
theorem enc_mA : encLt mA = [12, 0, 2, 4, 6, 8, 0] := by kernel_rfl
theorem enc_mB : encLt mB = [18, 0, 2, 10, 0, 0, 0, 0, 0, 0] := by kernel_rfl
theorem dec_1 : (decLt [12, 0, 0, 4, 6, 8, 0]).2 = 4 := by kernel_rfl
theorem dec_2 : (decLt [32]).2 = 3 := by kernel_rfl
theorem dec_3 : (decLt [12, 0, 2, 4, 6, 8]).2 = 3 := by kernel_rfl
theorem fill_mA (w : World) : (Instr.build 37 #[(0, .int .i64 6), (2, .int .i64 1), (3, .agg #[.int .i64 2, .int .i64 3]), (4, .agg #[.int .i64 4, .int .i64 0])]).run Try.prog w = .ok (.agg (ltC mA)) w := by kernel_rfl
theorem fill_mB (w : World) : (Instr.build 37 #[(0, .int .i64 9), (2, .int .i64 1), (8, .agg #[.int .i64 5, .int .i64 0, .int .i64 0, .int .i64 0, .int .i64 0, .int .i64 0, .int .i64 0])]).run Try.prog w = .ok (.agg (ltC mB)) w := by kernel_rfl
section
variable {P : Program} {ops : Array Oper} {rest : List Oper} {d : Option Tmp} {ty T : TypeId} {ps : String} {af : Array Edge} {gd : Option (Nat × Bool)} {a : Act} {w : World} {Q : Exit → Act → World → Prop}
theorem wpList_build_any {fs : Array (Nat × Operand)} {vs : Array (Nat × Value)} {v : Value} (hw : Region.wanted ({ dst := d, op := .build T fs, type := ty, pos := ps, after := af, guard := gd } : Oper) (yielded ops a.tmps) = true) (hv : fs.map (fun x => (x.1, a.eval x.2)) = vs) (hf : (Instr.build T vs).run P w = .ok v w)
    (h : wpList P ops Q rest (a.put d v) w) : wpList P ops Q ({ dst := d, op := .build T fs, type := ty, pos := ps, after := af, guard := gd } :: rest) a w :=
  wpList_step fun K hK => by
    rw [if_pos hw]
    unfold Oper.wp execOp
    subst hv
    simp only [Sem.run_bind, hf, Result.andThen_ok, Sem.run_pure]
    exact hK _ _ h
end
theorem getslit {w : World} {n c : Nat} {zs : List Int} {x : Int} {cs : Array Value} (hcs : cs = (cellsOf zs).toArray) (hn : zs.length = n) (ho : Octets zs) (hx : (decLt zs).2 = x) (ln : n ≤ 1000) :
    Calls Try.prog 11 #[.slice (some ⟨w.heap.size, 0, none⟩) n c] (w.alloc (.cells cs 5)) fun y w' => ∃ m, y = .returned (.tuple #[.agg (ltC m), .int .i64 x]) ∧ LtWf m ∧ Below w.heap.size w w' :=
  (pgetlt_any _ n c zs _ hn (lit_lies w hcs) ho (fun h => by cases h) (by omega)).mono fun y w' ⟨m, e, h1, h2, h3, h4⟩ => by
    rw [h2] at hx
    have hx : e = x := hx
    subst hx
    exact ⟨m, h1, h3, kept_lit _ h4⟩
theorem octets_of {zs : List Int} (h : zs.all (fun z => decide (0 ≤ z) && decide (z ≤ 255)) = true) : Octets zs := fun z hz => by
  have := List.all_eq_true.1 h z hz
  simpa using this
set_option maxHeartbeats 8000000 in
theorem runs_any (w : World) : Calls Try.prog 3 #[] w fun e w' => e = .returned (.bool true) ∧ Below w.heap.size w w' := by
  have HA := hide (fun w => pputlt_any mA ⟨rfl, rfl, rfl⟩ w)
  have HB := hide (fun w => pputlt_any mB ⟨rfl, rfl, rfl⟩ w)
  rw [enc_mA] at HA
  rw [enc_mB] at HB
  have HK := hide (Below.refl w.heap.size w)
  go_enter Try.func3, Try.ntmps3
  go_upto_region 2 with (first
    | ((with_reducible refine wpList_build_any ?_ ?_ (fill_mA _) ?_); rfl; (simp only [List.map_toArray, List.map_cons, List.map_nil]; rfl))
    | (go_at_call 9; (with_reducible refine (HA.out _).mono ?_); rintro e w1 ⟨u1, rfl, hy, hb⟩; have HK := hide (kept_trans HK.out hb); have Y1 := hide hy; clear hy hb HA))
  go_upto_region 3 with (first
    | ((with_reducible refine wpList_build_any ?_ ?_ (fill_mB _) ?_); rfl; (simp only [List.map_toArray, List.map_cons, List.map_nil]; rfl))
    | (go_at_call 9; (with_reducible refine (HB.out _).mono ?_); rintro e w2 ⟨u2, rfl, hy, hb⟩; have HK := hide (kept_trans HK.out hb); have Y1 := hide (Y1.out.below hb); have Y2 := hide hy; clear hy hb HB))
  obtain ⟨A1, c1, rfl, _, hc1, hm1, hl1⟩ := Y1.out.form
  obtain ⟨A2, c2, rfl, _, hc2, hm2, hl2⟩ := Y2.out.form
  have L1 := hide hl1
  have L2 := hide hl2
  clear hl1 hl2 Y1 Y2
  simp only [List.length_cons, List.length_nil] at hc1 hc2
  go_upto_region 5 with (first
    | (go_at_call 10; (with_reducible refine (same_lit (zs := [12, 0, 2, 4, 6, 8, 0]) L1.out ?_ ?_ ?_).mono ?_); rfl; omega; rfl; rintro e w3 ⟨rfl, hb⟩; have HK := hide (kept_trans HK.out hb); have L2 := hide (L2.out.below hb); have L3 := hide (L1.out.below hb); clear hb)
    | (go_at_call 10; (with_reducible refine (same_lit (zs := [18, 0, 2, 10, 0, 0, 0, 0, 0, 0]) L2.out ?_ ?_ ?_).mono ?_); rfl; omega; rfl; rintro e w3 ⟨rfl, hb⟩; have HK := hide (kept_trans HK.out hb); have L3 := hide (L3.out.below hb); clear hb))
  have D1 := hide (fun (w : World) => getslit (w := w) (n := 7) (c := 7) (zs := [12, 0, 0, 4, 6, 8, 0]) (cs := #[.int .u8 12, .int .u8 0, .int .u8 0, .int .u8 4, .int .u8 6, .int .u8 8, .int .u8 0]) rfl rfl (octets_of (by decide)) dec_1 (by decide))
  have D2 := hide (fun (w : World) => getslit (w := w) (n := 1) (c := 1) (zs := [32]) (cs := #[.int .u8 32]) rfl rfl (octets_of (by decide)) dec_2 (by decide))
  have h6 : 6 ≤ c1 := by omega
  have h6i : (6 : Int) ≤ (c1 : Int) := by omega
  have ST := fun (m : Lt) (h : LtWf m) => (show (Try.prog.info? 37).map (·.size) = some (ltC m).size by rw [ltC_size h]; exact lt_info)
  have ST2 := fun (m : Lt) (h : LtWf m) => (show 51 = (ltC m).size by rw [ltC_size h])
  go_upto_region 6 with (first
    | (go_at_call 11; (with_reducible refine (D1.out _).mono ?_); rintro e w4 ⟨m1, rfl, hm, hb⟩; have HK := hide (kept_trans HK.out hb); have L3 := hide (L3.out.below hb); have M1 := hide hm; clear hb hm)
    | ((with_reducible refine wpList_store_new (vs := ltC m1) ?_ ?_ (lt_allc _) ?_ ?_ ?_); exact ST _ M1.out; exact ST2 _ M1.out; rfl; rfl))
  try simp only [Act.put]
  have L3 := hide (L3.out.alloc (.cells (ltC m1) 37))
  have HK := hide (HK.out.alloc HK.out.size (.cells (ltC m1) 37))
  generalize w4.alloc (.cells (ltC m1) 37) = w5 at L3 HK ⊢
  go_upto_region 7 with (first
    | (go_at_call 11; (with_reducible refine (D2.out _).mono ?_); rintro e w6 ⟨m2, rfl, hm, hb⟩; have HK := hide (kept_trans HK.out hb); have L3 := hide (L3.out.below hb); have M2 := hide hm; clear hb hm)
    | ((with_reducible refine wpList_store_new (vs := ltC m2) ?_ ?_ (lt_allc _) ?_ ?_ ?_); exact ST _ M2.out; exact ST2 _ M2.out; rfl; rfl))
  try simp only [Act.put]
  have L3 := hide (L3.out.alloc (.cells (ltC m2) 37))
  have HK := hide (HK.out.alloc HK.out.size (.cells (ltC m2) 37))
  generalize w6.alloc (.cells (ltC m2) 37) = w7 at L3 HK ⊢
  have D3 := hide (pgetlt_any A1 6 c1 [12, 0, 2, 4, 6, 8] w7 rfl (L3.out.take 6) (octets_of (by decide)) (fun h => absurd (L3.out.nil_ h) (by decide)) (by decide))
  go_upto_region 8 with (first
    | (go_at_call 11; (with_reducible refine D3.out.mono ?_); rintro e w8 ⟨m3, x3, rfl, hx, hm, hb⟩; have HK := hide (kept_trans HK.out hb); have M3 := hide hm; have X3 := hide hx; clear hb hm hx)
    | ((with_reducible refine wpList_store_new (vs := ltC m3) ?_ ?_ (lt_allc _) ?_ ?_ ?_); exact ST _ M3.out; exact ST2 _ M3.out; rfl; rfl))
  try simp only [Act.put]
  obtain rfl : x3 = 3 := by have := dec_3; rw [X3.out] at this; exact this
  have HK := hide (HK.out.alloc HK.out.size (.cells (ltC m3) 37))
  generalize w8.alloc (.cells (ltC m3) 37) = w9 at HK ⊢
  clear ST ST2
  go_wp2
  go_ret
  exact ⟨rfl, HK.out⟩
end Go.Proofs.Ytlnpfaoeockoiaa
/- What the laws keep: a letter and bytes that came in. No condition. -/
namespace Go.Proofs.Ytlnpfaoeockoiaa
set_option maxRecDepth 100000
open Go.RowKit
/-- A letter in the block that was made first, bytes that came in. -/
structure Bk (W w : World) (m : Lt) (A : Option Addr) (zs : List Int) : Prop where
  m : LAt w W.heap.size 37 m
  z : Lies w A zs
  old : Below W.heap.size W w
theorem Bk.kept {W w w' : World} {m : Lt} {A : Option Addr} {zs : List Int} (h : Bk W w m A zs) (hb : Below w.heap.size w w') : Bk W w' m A zs := ⟨h.m.kept hb, h.z.below hb, kept_trans h.old hb⟩
theorem Bk.alloc {W w : World} {m : Lt} {A : Option Addr} {zs : List Int} (h : Bk W w m A zs) (o : Obj) : Bk W (w.alloc o) m A zs := h.kept ((Below.refl _ _).alloc (Nat.le_refl _) _)
theorem within_to (n : Int) (hi : Nat) (l : hi ≤ 4611686018427387904) : ∃ K : Nat, K ≤ hi ∧ ∀ (v : Int) (w : World), v = hi → Calls Try.prog 20 #[.int .i64 n, .int .i64 0, .int .i64 v] w fun e w' => e = .returned (.int .i64 (K : Int)) ∧ w = w' := by
  have hb := withinI_bounds n 0 hi (by omega)
  refine ⟨(withinI n 0 hi).toNat, by omega, fun v w hv => ?_⟩
  subst hv
  rw [Int.toNat_of_nonneg (by omega)]
  exact within_any n 0 hi w (by omega) (by omega) (by omega)
theorem lt_info2 {m : Lt} (h : LtWf m) : (Try.prog.info? 37).map (·.size) = some (ltC m).size := by rw [ltC_size h]; exact lt_info
theorem lt_size2 {m : Lt} (h : LtWf m) : 51 = (ltC m).size := by rw [ltC_size h]
/-- Same of what was made. -/
theorem same_below (A B : Option Addr) (n m c d : Nat) (zs ys : List Int) (w : World) (hn : zs.length = n) (hm : ys.length = m) (hz : Lies w A zs) (hy : Lies w B ys) (ln : n ≤ 4611686018427387904) (lm : m ≤ 4611686018427387904) :
    Calls Try.prog 10 #[.slice A n c, .slice B m d] w fun e w' => e = .returned (.bool (decide (zs = ys))) ∧ Below w.heap.size w w' :=
  (same_any A B n m c d zs ys w hn hm hz hy ln lm).mono fun _ _ ⟨h1, q, h2⟩ => ⟨h1, by rw [h2]; exact kept_drewN (kept_refl w) q⟩
theorem same_self (A B : Option Addr) (n m c d : Nat) (zs : List Int) (w : World) (hn : zs.length = n) (hm : zs.length = m) (hz : Lies w A zs) (hy : Lies w B zs) (ln : n ≤ 4611686018427387904) :
    Calls Try.prog 10 #[.slice A n c, .slice B m d] w fun e w' => e = .returned (.bool true) ∧ Below w.heap.size w w' := by
  have h := same_below A B n m c d zs zs w hn hm hz hy ln (by omega)
  rw [decide_eq_true rfl] at h
  exact h
end Go.Proofs.Ytlnpfaoeockoiaa
