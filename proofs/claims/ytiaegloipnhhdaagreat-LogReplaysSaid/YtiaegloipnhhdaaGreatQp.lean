/- The program's closure of Trim, maps.DeleteFunc over it. Conditions: the Log's block lies in memory; its cells stand at right instances, no two at one. -/
import Derived.Test.YtiaegloipnhhdaaGreatQn
import Derived.LoopTactic
import Derived.Deep.DeepCutAuto
import Derived.Test.YtiaegloipnhhdaaGreatQa
import Derived.Lib.MinMax
import Derived.Test.YtiaegloipnhhdaaGreatQm
namespace Go.Proofs.YtiaegloipnhhdaaGreat
set_option maxRecDepth 100000
open Go.RowKit Go.Maps
theorem ce_size {x : Cl} (h : x.a.length = 8) : (Tryz.prog.info? 38).map (·.size) = some (clC x).size := by rw [clC_size h]; exact ce_info
theorem right_okG {i : Int × Int} (h : rightI i.1 i.2 = true) : Ok i := by
  obtain ⟨⟨a, b⟩, c, d⟩ := rightI_says h
  exact ⟨by unfold I64; omega, by unfold I64; omega⟩
set_option maxHeartbeats 4000000 in
theorem ptcl_any (g b q : Nat) (d : List Int) (e : Lc) (w : World) (h : Row w g 62 (pgC b d)) (h7 : d.length = 7) (hq : Row w q 23 #[.pointer (some ⟨g, 0, none⟩)]) :
    Calls Tryz.prog 49 #[.agg #[.int .i64 e.i.1, .int .i64 e.i.2], .agg (clC e.c), .pointer (some ⟨q, 0, none⟩)] w (fun en w' => en = .returned (.bool (goneL d e.i)) ∧ Below w.heap.size w w') := by
  have HB := hide (kept_alloc (kept_alloc (kept_refl w) (.cells #[.int .i64 e.i.1, .int .i64 e.i.2] 30)) (.cells (clC e.c) 38))
  have HI := hide ((Row.new w 30 #[.int .i64 e.i.1, .int .i64 e.i.2]).alloc (.cells (clC e.c) 38))
  have RG := hide (h.below HB.out h.lt)
  have RQ := hide (hq.below HB.out hq.lt)
  have HG := hide (fun (w' : World) (h : Row w' g 62 (pgC b d)) => pgone_row g b d e.i.1 e.i.2 w' h h7)
  obtain ⟨t, ht⟩ : ∃ t, goneL d e.i = t := ⟨_, rfl⟩
  have ht2 : goneL d (e.i.1, e.i.2) = t := ht
  rw [ht2] at HG
  rw [ht]
  clear h hq h7 ht ht2
  go_enter Tryz.func49, Tryz.ntmps49
  go_upto_region 1 with (fail)
  generalize (w.alloc (.cells #[.int .i64 e.i.1, .int .i64 e.i.2] 30)).alloc (.cells (clC e.c) 38) = w1 at HB HI RG RQ ⊢
  have c0 := HI.out.cell 0
  have c1 := HI.out.cell 1
  have c2 := RQ.out.cell 0
  go_wp2_with (first
    | (go_at_call 22; (with_reducible refine (HG.out _ RG.out).mono ?_); rintro y w2 ⟨rfl, hb⟩; have HB := hide (kept_trans HB.out hb); clear hb))
  go_ret
  exact ⟨rfl, HB.out⟩
/-- While DeleteFunc goes on. -/
structure Pd (w wr : World) (g b q gr : Nat) (d : List Int) : Prop where
  kq : Kq (fun k => k = b) w wr
  row : Row wr g 62 (pgC b d)
  rq : Row wr q 23 #[.pointer (some ⟨g, 0, none⟩)]
  n1 : g < gr
  n2 : q < gr
  n3 : w.heap.size ≤ gr
section
variable {w wr wx : World} {g b q gr : Nat} {d : List Int}
theorem Pd.below (h : Pd w wr g b q gr d) (hb : Below wr.heap.size wr wx) : Pd w wx g b q gr d :=
  ⟨h.kq.trans (Kq.of_below (o := fun k => k = b) hb) (fun _ _ e => e), h.row.below hb h.row.lt, h.rq.below hb h.rq.lt, h.n1, h.n2, h.n3⟩
theorem Pd.grown (h : Pd w wr g b q gr d) (hg : wr.grownBy wx (some gr)) : Pd w wx g b q gr d := by
  have h1 := h.n1
  have h2 := h.n2
  have h3 := h.n3
  exact ⟨h.kq.trans (Kq.grown (o := fun k => k = gr) hg (fun k e => by injection e with e; exact e.symm)) (fun k hk e => by omega), h.row.grown hg (by simp; omega), h.rq.grown hg (by simp; omega), h.n1, h.n2, h.n3⟩
theorem Pd.turn (h : Pd w wr g b q gr d) (hg : wr.grownBy wx (some b)) (h1 : g ≠ b) (h2 : q ≠ b) : Pd w wx g b q gr d :=
  ⟨h.kq.trans (Kq.grown (o := fun k => k = b) hg (fun k e => by injection e with e; exact e.symm)) (fun k hk e => e), h.row.grown hg (by simpa using h1), h.rq.grown hg (by simpa using h2), h.n1, h.n2, h.n3⟩
end
/-- Those that have come. -/
def doneG (m : List Lc) (left : Lit → Bool) : List Lc := m.filter fun e => !left (kl e.i)
theorem doneL_kL (m : List Lc) (left : Lit → Bool) : doneL (kL m) left = kL (doneG m left) := by
  unfold doneL kL doneG
  rw [List.filter_map]
  rfl
theorem doneG_nil {m : List Lc} {left : Lit → Bool} (h : doneL (kL m) left = []) : doneG m left = [] := by
  rw [doneL_kL] at h
  exact List.map_eq_nil_iff.1 h
theorem doneG_all {m : List Lc} {left : Lit → Bool} (h : doneL (kL m) left = kL m) : doneG m left = m := by
  rw [doneL_kL] at h
  have h2 := congrArg List.length h
  rw [kL_len, kL_len] at h2
  exact List.filter_eq_self.2 (List.length_filter_eq_length_iff.1 h2)
theorem delM_kL (m : List Lc) (x : Int × Int) : delM (kL m) x = kL (m.filter fun e => decide (e.i ≠ x)) := by
  unfold delM kL
  rw [List.filter_map]
  rfl
/-- Which are still there; those that have come and are there are not gone. -/
structure Pp (k : List Lc) (d : List Int) (p : Lc → Bool) (left : Lit → Bool) : Prop where
  over : ∀ e, e ∈ k → goneL d e.i = false → p e = true
  came : ∀ e, e ∈ k → p e = true → left (kl e.i) = false → goneL d e.i = false
theorem Pp.fin {k : List Lc} {d : List Int} {p : Lc → Bool} {left : Lit → Bool} (h : Pp k d p left) (hd : doneG (k.filter p) left = k.filter p) : k.filter p = k.filter fun e => !goneL d e.i := by
  refine List.filter_congr fun e he => ?_
  cases hp : p e
  · cases ho : goneL d e.i
    · rw [h.over e he ho] at hp; cases hp
    · rfl
  · have hm : e ∈ doneG (k.filter p) left := by rw [hd]; exact List.mem_filter.2 ⟨he, hp⟩
    have hl := (List.mem_filter.1 hm).2
    rw [h.came e he hp (by simpa using hl)]
    rfl
theorem kl_sameG {e f : Lc} (he : rightI e.i.1 e.i.2 = true) (hf : rightI f.i.1 f.i.2 = true) : Lit.sameKey (kl e.i) (kl f.i) = decide (e.i = f.i) := kl_same (right_okG he) (right_okG hf)
theorem Pp.stay {k : List Lc} {d : List Int} {p : Lc → Bool} {left : Lit → Bool} (h : Pp k d p left) (hr : ∀ e, e ∈ k → rightI e.i.1 e.i.2 = true) {e : Lc} (he : e ∈ k) (ho : goneL d e.i = false) : Pp k d p (strikeL left e.i) := by
  refine ⟨h.over, fun f hf hp hl => ?_⟩
  unfold strikeL at hl
  rw [kl_sameG (hr f hf) (hr e he)] at hl
  by_cases hk : f.i = e.i
  · rw [hk]; exact ho
  · rw [decide_eq_false hk, Bool.not_false, Bool.and_true] at hl
    exact h.came f hf hp hl
theorem Pp.gone {k : List Lc} {d : List Int} {p : Lc → Bool} {left : Lit → Bool} (h : Pp k d p left) (hr : ∀ e, e ∈ k → rightI e.i.1 e.i.2 = true) {e : Lc} (he : e ∈ k) (ho : goneL d e.i = true) : Pp k d (fun f => p f && decide (f.i ≠ e.i)) (strikeL (strikeL left e.i) e.i) := by
  refine ⟨fun f hf hof => ?_, fun f hf hp hl => ?_⟩
  · rw [h.over f hf hof, Bool.true_and]
    refine decide_eq_true fun hk => ?_
    rw [hk, ho] at hof
    cases hof
  · rw [Bool.and_eq_true, decide_eq_true_eq] at hp
    unfold strikeL at hl
    rw [kl_sameG (hr f hf) (hr e he), decide_eq_false hp.2, Bool.not_false, Bool.and_true, Bool.and_true] at hl
    exact h.came f hf hp.1 hl
theorem del_filterG (k : List Lc) (p : Lc → Bool) (x : Int × Int) : delM (kL (k.filter p)) x = kL (k.filter fun f => p f && decide (f.i ≠ x)) := by
  rw [delM_kL, List.filter_filter]
  congr 1
  refine List.filter_congr fun e _ => ?_
  exact Bool.and_comm _ _
set_option maxHeartbeats 8000000 in
theorem pdel_any (g b q : Nat) (k : List Lc) (d : List Int) (w : World) (hrow : Row w g 62 (pgC b d)) (h7 : d.length = 7) (hm : Mp w b (kL k)) (hq : Row w q 23 #[.pointer (some ⟨g, 0, none⟩)]) (hr : ∀ e, e ∈ k → rightI e.i.1 e.i.2 = true) (h8 : ∀ e, e ∈ k → e.c.a.length = 8) :
    Calls Tryz.prog 48 #[.map (some b), .func (.func 49) #[] #[.pointer (some ⟨q, 0, none⟩)]] w (fun e w' => e = .returned (.tuple #[]) ∧ Row w' g 62 (pgC b d) ∧ Mp w' b (kL (k.filter fun e => !goneL d e.i)) ∧ Kq (fun k => k = b) w w') := by
  have HM := hide hm
  have HD0 := hide (fun (w3 : World) (hb : Below w.heap.size w w3) => (show Pd w w3 g b q w.heap.size d from ⟨.of_below hb, hrow.below hb hrow.lt, hq.below hb hq.lt, hrow.lt, hq.lt, Nat.le_refl _⟩))
  have HGB := hide (show g ≠ b ∧ q ≠ b from ⟨fun e => mp_off hm hrow e.symm, fun e => mp_off hm hq e.symm⟩)
  have HR := hide hr
  have H8 := hide h8
  have H7 := hide h7
  clear hrow hm hq hr h8 h7
  go_enter Tryz.func48, Tryz.ntmps48
  go_wp2_with (first
    | (at_range; refine wpList_range_mp HM.out rfl _ rfl Tryz.underlying60 rfl ?_; intro w3 left0 hrg0 hd0 hb0)
    | go_in)
  have HP := hide (HD0.out w3 hb0)
  have HL0 := hide (show Pp k d (fun _ => true) left0 from ⟨fun _ _ _ => rfl, fun e he _ hl => by
    have h1 := doneG_nil hd0
    have h2 : e ∈ doneG k left0 := List.mem_filter.2 ⟨he, by rw [hl]; rfl⟩
    rw [h1] at h2
    cases h2⟩)
  have HR0 := hide (show Rgm w3 b w.heap.size (kL (k.filter fun _ => true)) left0 by rw [show (k.filter fun _ => true) = k from List.filter_eq_self.2 (fun _ _ => rfl)]; exact hrg0)
  clear hrg0 hb0 hd0 HD0 HM
  go_frame
  obtain ⟨gr, hgr⟩ : ∃ g, w.heap.size = g := ⟨_, rfl⟩
  have HGR := hide hgr
  rw [hgr] at HP HR0 ⊢
  clear hgr
  go_loopw [] (fun wr => ∃ left p, Rgm wr b gr (kL (k.filter p)) left ∧ Hid (Pp k d p left) ∧ Hid (Pd w wr g b q gr d)) (fun wr => wr.rangeLeft b gr)
  case atStart => exact ⟨_, _, HR0.out, HL0, HP⟩
  case round =>
    clear HP HR0 HL0
    obtain ⟨left, p, hrg, HPP, HP⟩ := hrel
    go_wp2_with (first
      | (at_next; refine wpList_next_rg hrg rfl _ rfl rfl ?_ ?_)
      | go_in)
    · intro hall
      have HE := hide (show Mp wr b (kL (k.filter fun e => !goneL d e.i)) by rw [← HPP.out.fin (doneG_all hall)]; exact hrg.mp)
      clear hall hrg
      go_wp2
      refine bodyPost_end (results_none rfl _ _ _) rfl ?_
      exact ⟨rfl, HP.out.row, HE.out, HP.out.kq⟩
    · intro er0 es0 ev w4 hm hrg4 hpm hlt hg4 hen
      obtain ⟨e, hem, heq⟩ := mem_kL.1 hm
      obtain rfl : e.i.1 = er0 := congrArg (fun z => z.1.1) heq
      obtain rfl : e.i.2 = es0 := congrArg (fun z => z.1.2) heq
      obtain rfl : Value.agg (clC e.c) = ev := congrArg (fun z => z.2) heq
      have hek := (List.mem_filter.1 hem).1
      have HEK := hide hek
      have h8 := H8.out e hek
      have HP4 := hide (HP.out.grown hg4)
      have hzs : (#[Value.int .i64 0, .int .i64 0, .int .i64 0, .int .i64 0, .int .i64 0, .int .i64 0, .int .i64 0, .int .i64 0, .string ⟨#[]⟩, .string ⟨#[]⟩, .string ⟨#[]⟩, .string ⟨#[]⟩, .int .i64 0, .int .i64 0, .int .i64 0, .int .i64 0, .int .i64 0, .int .i64 0, .int .i64 0, .int .i64 0, .bool false] : Array Value).size = (clC e.c).size := by rw [clC_size h8]; rfl
      clear heq hm hpm hg4 hek hem HP hrg
      have HB5 := hide (kept_alloc (kept_alloc (kept_refl w4) (.cells #[.int .i64 e.i.1, .int .i64 e.i.2] 30)) (.cells (clC e.c) 38))
      have V1 := hide ((Row.new w4 30 #[.int .i64 e.i.1, .int .i64 e.i.2]).alloc (.cells (clC e.c) 38))
      have V2 := CeAt.new (x := e.c) h8 (w4.alloc (.cells #[.int .i64 e.i.1, .int .i64 e.i.2] 30)) 38
      rw [show (w4.alloc (.cells #[.int .i64 e.i.1, .int .i64 e.i.2] 30)).heap.size = w4.heap.size + 1 by simp] at V2
      replace V2 := hide V2
      have HRG := hide (hrg4.below HB5.out)
      have HLT := hide (show ((w4.alloc (.cells #[.int .i64 e.i.1, .int .i64 e.i.2] 30)).alloc (.cells (clC e.c) 38)).rangeLeft b gr < wr.rangeLeft b gr by rw [hrg4.left_below HB5.out]; exact hlt)
      have HP5 := hide (HP4.out.below HB5.out)
      clear hrg4 hlt HP4
      try go_frame
      go_upto_region 3 with (first
        | ((with_reducible refine wpList_store_new (vs := clC e.c) (ce_size h8) hzs (cl_all _) ?_ ?_ ?_); (first | (simp; done) | (simp; rfl)); rfl)
        | fail)
      try dsimp only [Act.put]
      generalize (w4.alloc (.cells #[.int .i64 e.i.1, .int .i64 e.i.2] 30)).alloc (.cells (clC e.c) 38) = w5 at HB5 V1 V2 HRG HLT HP5 ⊢
      generalize w4.heap.size = v at V1 V2 HB5 ⊢
      clear hen HB5 hzs
      obtain ⟨t, ht⟩ : ∃ t, goneL d e.i = t := ⟨_, rfl⟩
      have HT := hide ht
      have HCL := hide (ptcl_any g b q d e w5 HP5.out.row H7.out HP5.out.rq)
      rw [ht] at HCL
      clear ht
      have v0 : w5.cell? ⟨v, 0, none⟩ = some (.int .i64 e.i.1) := V1.out.cell 0
      have v1 : w5.cell? ⟨v, 1, none⟩ = some (.int .i64 e.i.2) := V1.out.cell 1
      cases t
      case false =>
        go_wp2_with (first
          | ((with_reducible refine wpList_load_ce h8 ?_ ?_ V2.out.all ?_); rfl; rfl)
          | (go_at_call 49; (with_reducible refine HCL.out.mono ?_); rintro ea wa ⟨rfl, HBA⟩; replace HP5 := hide (HP5.out.below HBA); have HRA := hide (HRG.out.below HBA); have HLA := hide (show wa.rangeLeft b gr < wr.rangeLeft b gr by rw [HRG.out.left_below HBA]; exact HLT.out); clear HBA v0 v1)
          | go_in)
        exact ⟨⟨_, _, HRA.out, hide (HPP.out.stay HR.out HEK.out HT.out), HP5⟩, HLA.out⟩
      case true =>
        go_wp2_with (first
          | ((with_reducible refine wpList_load_ce h8 ?_ ?_ V2.out.all ?_); rfl; rfl)
          | (go_at_call 49; (with_reducible refine HCL.out.mono ?_); rintro ea wa ⟨rfl, HBA⟩; replace HP5 := hide (HP5.out.below HBA); have HRA := hide (HRG.out.below HBA); have HLA := hide (show wa.rangeLeft b gr < wr.rangeLeft b gr by rw [HRG.out.left_below HBA]; exact HLT.out); replace V1 := hide (V1.out.below HBA V1.out.lt); clear HBA v0 v1; have v0 : wa.cell? ⟨v, 0, none⟩ = some (.int .i64 e.i.1) := V1.out.cell 0; have v1 : wa.cell? ⟨v, 1, none⟩ = some (.int .i64 e.i.2) := V1.out.cell 1)
          | (at_delete; refine wpList_delete_rg HRA.out rfl _ _ rfl Tryz.underlying60 rfl e.i (right_okG (HR.out e HEK.out)) rfl ?_; intro w6 hrg6 hle6 hg6; replace HP5 := hide (HP5.out.turn hg6 HGB.out.1 HGB.out.2); have HR6 := hide (show Rgm w6 b gr (kL (k.filter fun f => p f && decide (f.i ≠ e.i))) (strikeL (strikeL left e.i) e.i) from del_filterG k p e.i ▸ hrg6); have HL6 := hide (Nat.lt_of_le_of_lt hle6 HLA.out); clear hrg6 hle6 hg6 v0 v1)
          | go_in)
        refine ⟨?_, HL6.out⟩
        repeat apply Exists.intro
        exact ⟨⟨_, _, HR6.out, hide (HPP.out.gone HR.out HEK.out HT.out), HP5⟩, rfl⟩
end Go.Proofs.YtiaegloipnhhdaaGreat
/- The program's Trim, New. Conditions: the Log lies in memory. -/
namespace Go.Proofs.YtiaegloipnhhdaaGreat
set_option maxRecDepth 100000
open Go.RowKit Go.Maps
/-- A bound of the program's Trim. -/
def upP (d u : List Int) (k : Nat) : Int := max (ix d k) (min (ix u k) 1073741824)
theorem upP_is {x : Lw} (h : Kl x) (u : List Int) : (List.range 7).map (upP x.d u) = upL x.d u := by
  unfold upL
  refine List.map_congr_left fun k hk => ?_
  have := h.low k (List.mem_range.1 hk)
  unfold upP
  omega
/-- While the cut is raised. -/
structure Pu (w wr : World) (g b : Nat) (m : List Lc) (D : List Int) : Prop where
  kq : Kq (fun k => k = g) w wr
  row : Row wr g 62 (pgC b D)
  mp : Mp wr b (kL m)
  bx : Row wr w.heap.size 23 #[.pointer (some ⟨g, 0, none⟩)]
section
variable {w wr wx : World} {g b : Nat} {m : List Lc} {D : List Int}
theorem Pu.below (h : Pu w wr g b m D) (hb : Below wr.heap.size wr wx) : Pu w wx g b m D := ⟨h.kq.trans (Kq.of_below (o := fun k => k = g) hb) (fun _ _ e => e), h.row.below hb h.row.lt, h.mp.below hb, h.bx.below hb h.bx.lt⟩
theorem Pu.put (h : Pu w wr g b m D) (hgw : g < w.heap.size) (k : Nat) (v : Int) : Pu w (wr.setCell ⟨g, 1 + k, none⟩ (.int .i64 v)) g b m (D.set k v) := by
  have hg := grown_put (grown_refl wr (some g)) (1 + k) (.int .i64 v)
  exact ⟨h.kq.trans (Kq.grown (o := fun k => k = g) hg (fun k e => by injection e with e; exact e.symm)) (fun _ _ e => e), by have := h.row.put (1 + k) (.int .i64 v); rwa [pgC_put] at this, h.mp.grown hg (by have := mp_off h.mp h.row; simpa using this), h.bx.grown hg (fun e => absurd (Option.some.inj e) (by omega))⟩
end
set_option maxHeartbeats 8000000 in
theorem ptrim_any {g b : Nat} {w : World} {x : Lw} {u : List Int} (h : Pg w g b x) (hu : u.length = 7) :
    Calls Tryz.prog 20 #[.pointer (some ⟨g, 0, none⟩), .agg (cA u)] w fun e w' => e = .returned (.tuple #[]) ∧ Pg w' g b (trimL x u) ∧ Kq (fun k => k = g ∨ k = b) w w' := by
  obtain ⟨m, hp, hm⟩ := h.pm.mp
  have hgw := h.row.lt
  have hb2 := kept_alloc (kept_alloc (kept_refl w) (.cells #[.pointer (some ⟨g, 0, none⟩)] 23)) (.cells (cA u) 26)
  have HP := hide (show Pu w ((w.alloc (.cells #[.pointer (some ⟨g, 0, none⟩)] 23)).alloc (.cells (cA u) 26)) g b m (genk (upP x.d u) x.d 0) by
    rw [genk_0 _ h.kl.d7]
    exact ⟨.of_below hb2, h.row.below hb2 h.row.lt, hm.below hb2, (Row.new w _ _).alloc _⟩)
  have RU := hide (Row.new (w.alloc (.cells #[.pointer (some ⟨g, 0, none⟩)] 23)) 26 (cA u))
  rw [show (w.alloc (.cells #[.pointer (some ⟨g, 0, none⟩)] 23)).heap.size = w.heap.size + 1 by simp] at RU
  have HK := hide h.kl
  have HPM := hide hp
  have hmf : ∀ (fn : Fn) (first cap : Array Value) (w : World), (Instr.makeFunc fn first cap).run Tryz.prog w = .ok (.func fn first cap) w := fun _ _ _ _ => rfl
  have HI : Hid (∀ (k : Nat) (_ : k < 7) (w : World), (Instr.index 26 (.agg (cA u)) (.int .i64 k)).run Tryz.prog w = .ok (.int .i64 (ix u k)) w) := hide (fun k h w => by
    obtain ⟨u0, u1, u2, u3, u4, u5, u6, rfl⟩ := len_seven hu
    exact index_deps u0 u1 u2 u3 u4 u5 u6 k h w)
  clear h hb2 hm hp
  go_enter Tryz.func20, Tryz.ntmps20
  go_upto_region 1 with (fail)
  generalize (w.alloc (.cells #[.pointer (some ⟨g, 0, none⟩)] 23)).alloc (.cells (cA u) 26) = w1 at HP RU ⊢
  have RA := hide (RU.out.mid (A := []) (ys := cellsR u) (B := []) (o := 0) (by unfold cA; simp) rfl)
  go_wp2_with ((with_reducible refine wpList_load_de hu ?_ ?_ RA.out ?_); rfl; rfl)
  clear RU RA
  generalize (Value.agg (cA u)) = vu at HI ⊢
  go_loopw [7] (fun i wr => ∃ k : Nat, k ≤ 7 ∧ i = .int .i64 k ∧ Hid (Pu w wr g b m (genk (upP x.d u) x.d k))) (fun i _ => 7 - (intOf i).toNat)
  case atStart => exact ⟨0, by omega, rfl, HP⟩
  case round =>
    clear HP
    obtain ⟨k, hk, rfl, HR⟩ := hrel
    by_cases hk7 : k < 7
    · have hk7i : (k : Int) < 7 := by omega
      have hk0i : (0 : Int) ≤ (k : Int) := by omega
      have hi := HI.out k hk7
      go_upto_region 4 with (fail)
      clear hi
      have x0 : wr.cell? ⟨w.heap.size, 0, none⟩ = some (.pointer (some ⟨g, 0, none⟩)) := HR.out.bx.cell 0
      have f1 : wr.cell? ⟨g, 1 + k, none⟩ = some (.int .i64 (ix x.d k)) := by
        rw [HR.out.row.cell, pgC_cut _ _ (by rw [genk_len]; exact hk7), genk_at _ _ hk7]
      have g1 : wr.frozen? ⟨g, 1 + k, none⟩ = false := HR.out.row.free (1 + k)
      have OK := hide (show Pu w (wr.setCell ⟨g, 1 + k, none⟩ (.int .i64 (max (ix x.d k) (min (ix u k) 1073741824)))).drew g b m (genk (upP x.d u) x.d (k + 1)) from by
        have h := (HR.out.put hgw k (max (ix x.d k) (min (ix u k) 1073741824))).below (kept_drewN (kept_refl _) 1)
        rw [← genk_step]
        exact h)
      clear HR
      generalize ix u k = uk at OK ⊢
      go_region
      clear f1 g1 x0
      generalize World.drew (World.setCell wr _ _) = wv at OK ⊢
      go_wp2
      go_roundw
      case rel => exact ⟨k + 1, by omega, by go_num, OK⟩
      case measure => simp [intOf]; omega
    · obtain rfl : k = 7 := by omega
      rw [genk_7, upP_is HK.out] at HR
      have x0 : wr.cell? ⟨w.heap.size, 0, none⟩ = some (.pointer (some ⟨g, 0, none⟩)) := HR.out.bx.cell 0
      have f1 : wr.cell? ⟨g, 0, none⟩ = some (.map (some b)) := HR.out.row.cell 0
      have HDL := hide (pdel_any g b w.heap.size m (upL x.d u) wr HR.out.row (by unfold upL; simp) HR.out.mp HR.out.bx (fun e he => (HK.out.ok e (HPM.out.mem_iff.1 he)).1) (fun e he => (HK.out.ok e (HPM.out.mem_iff.1 he)).2.2.2))
      go_wp2_with (first
        | (go_at_call 48; (with_reducible refine HDL.out.mono ?_); rintro ea wa ⟨rfl, HRA, HMA, HKA⟩)
        | go_in)
      refine bodyPost_end (results_none rfl _ _ _) rfl ?_
      exact ⟨rfl, ⟨HRA, ⟨_, HPM.out.filter _, HMA⟩, HK.out.trim u⟩, (HR.out.kq.mono (fun k e => .inl e)).trans (HKA.mono (o' := fun k => k = g ∨ k = b) (fun k e => .inr e)) (fun _ _ e => e)⟩
set_option maxHeartbeats 2000000 in
theorem pnew_any {d : List Int} (hd : d.length = 7) (w : World) : Calls Tryz.prog 5 #[.agg (cA d)] w fun e w' => ∃ g b, e = .returned (.pointer (some ⟨g, 0, none⟩)) ∧ Pg w' g b (trimL zeroLw d) ∧ Below w.heap.size w w' ∧ w.heap.size ≤ g ∧ w.heap.size ≤ b := by
  have hm := Mp.made (w.alloc (.cells (cA d) 26))
  have hs : (w.alloc (.cells (cA d) 26)).heap.size = w.heap.size + 1 := by simp
  rw [hs] at hm
  have HB := hide (kept_alloc (kept_alloc (kept_alloc (kept_refl w) (.cells (cA d) 26)) (.map #[] 0)) (.cells (pgC (w.heap.size + 1) zero7) 62))
  have RD := hide (((Row.new w 26 (cA d)).alloc (.map #[] 0)).alloc (.cells (pgC (w.heap.size + 1) zero7) 62))
  have HP := hide (show Pg (((w.alloc (.cells (cA d) 26)).alloc (.map #[] 0)).alloc (.cells (pgC (w.heap.size + 1) zero7) 62)) (w.heap.size + 1 + 1) (w.heap.size + 1) zeroLw from ⟨by
    have h := Row.new ((w.alloc (.cells (cA d) 26)).alloc (.map #[] 0)) 62 (pgC (w.heap.size + 1) zero7)
    have hs : ((w.alloc (.cells (cA d) 26)).alloc (.map #[] 0)).heap.size = w.heap.size + 1 + 1 := by simp
    rwa [hs] at h, ⟨[], List.Perm.nil, hm.alloc _⟩, Kl.zero⟩)
  clear hm hs
  have hmm := @run_makeMap Tryz.prog
  go_enter Tryz.func5, Tryz.ntmps5
  go_upto_region 2 with (fail)
  rw [show (#[.map (some (w.heap.size + 1)), .int .i64 0, .int .i64 0, .int .i64 0, .int .i64 0, .int .i64 0, .int .i64 0, .int .i64 0] : Array Value) = pgC (w.heap.size + 1) zero7 from rfl]
  generalize ((w.alloc (.cells (cA d) 26)).alloc (.map #[] 0)).alloc (.cells (pgC (w.heap.size + 1) zero7) 62) = w1 at HB RD HP ⊢
  have RA := hide (RD.out.mid (A := []) (ys := cellsR d) (B := []) (o := 0) (by unfold cA; simp) rfl)
  have HT := hide (ptrim_any HP.out hd)
  go_wp2_with (first
    | ((with_reducible refine wpList_load_de hd ?_ ?_ RA.out ?_); rfl; rfl)
    | (go_at_call 20; (with_reducible refine HT.out.mono ?_); rintro ea wa ⟨rfl, HPA, HKA⟩))
  go_ret
  exact ⟨_, _, rfl, HPA, HKA.below HB.out HB.out.size (fun k hk e => by omega), by omega, by omega⟩
end Go.Proofs.YtiaegloipnhhdaaGreat
/- The program's Top. Condition: the Log lies in memory. -/
namespace Go.Proofs.YtiaegloipnhhdaaGreat
set_option maxRecDepth 100000
open Go.RowKit Go.Maps
theorem Tz.grown {W w w' : World} {d : List Int} {gr : Nat} (h : Tz W w d) (hg : w.grownBy w' (some gr)) (hn : W.heap.size + 1 < gr) : Tz W w' d :=
  ⟨h.a.grown hg (fun e => absurd (Option.some.inj e) (by omega)), h.b.grown hg (fun e => absurd (Option.some.inj e) (by omega)), below_own h.low hg (by omega)⟩
theorem Tz.below {W w w' : World} {d : List Int} (h : Tz W w d) (hb : Below w.heap.size w w') : Tz W w' d := ⟨h.a.below hb h.a.lt, h.b.below hb h.b.lt, kept_trans h.low hb⟩
theorem keys_inj {k : List Lc} (h : (k.map Lc.i).Nodup) {e f : Lc} (he : e ∈ k) (hf : f ∈ k) (hk : e.i = f.i) : e = f := by
  induction k with
  | nil => cases he
  | cons a k ih =>
    rw [List.map_cons, List.nodup_cons] at h
    rcases List.mem_cons.1 he with rfl | he2
    · rcases List.mem_cons.1 hf with rfl | hf2
      · rfl
      · exact absurd (List.mem_map.2 ⟨f, hf2, hk.symm⟩) h.1
    · rcases List.mem_cons.1 hf with rfl | hf2
      · exact absurd (List.mem_map.2 ⟨e, he2, hk⟩) h.1
      · exact ih h.2 he2 hf2
theorem doneG_step {m : List Lc} {left left' : Lit → Bool} {e : Lc} (h : (doneL (kL m) left').Perm (doneL (kL m) left ++ [(e.i, .agg (clC e.c))])) (hn : (m.map Lc.i).Nodup) (he : e ∈ m) : (doneG m left').Perm (doneG m left ++ [e]) := by
  rw [doneL_kL, doneL_kL] at h
  have hk : ((doneG m left').map Lc.i).Perm ((doneG m left ++ [e]).map Lc.i) := by
    have := h.map Prod.fst
    rw [List.map_append, kL_keys, kL_keys] at this
    rw [List.map_append]
    exact this
  have n1 : ((doneG m left').map Lc.i).Nodup := hn.sublist (List.Sublist.map _ List.filter_sublist)
  have n2 := hk.nodup_iff.1 n1
  refine (List.perm_ext_iff_of_nodup (keys_nodup n1) (keys_nodup n2)).2 fun f => ?_
  have inj : ∀ f, f ∈ m → ∀ k : List Lc, (∀ x, x ∈ k → x ∈ m) → (f.i ∈ k.map Lc.i ↔ f ∈ k) := fun f hf k hk => ⟨fun h => by
    obtain ⟨x, hx, hxi⟩ := List.mem_map.1 h
    have hxm := hk x hx
    rw [← keys_inj hn hxm hf hxi]
    exact hx, fun h => List.mem_map.2 ⟨f, h, rfl⟩⟩
  have s1 : ∀ x, x ∈ doneG m left' → x ∈ m := fun x hx => (List.mem_filter.1 hx).1
  have s2 : ∀ x, x ∈ doneG m left ++ [e] → x ∈ m := fun x hx => by
    rcases List.mem_append.1 hx with h1 | h1
    · exact (List.mem_filter.1 h1).1
    · rw [List.mem_singleton.1 h1]; exact he
  constructor
  · intro hf
    exact (inj f (s1 f hf) _ s2).1 (hk.mem_iff.1 (List.mem_map.2 ⟨f, hf, rfl⟩))
  · intro hf
    exact (inj f (s2 f hf) _ s1).1 (hk.mem_iff.2 (List.mem_map.2 ⟨f, hf, rfl⟩))
set_option maxHeartbeats 8000000 in
theorem ptop_any {g b : Nat} {w : World} {x : Lw} (h : Pg w g b x) :
    Calls Tryz.prog 14 #[.pointer (some ⟨g, 0, none⟩)] w fun e w' => e = .returned (.agg (cA (topL x))) ∧ Below w.heap.size w w' := by
  obtain ⟨m, hp, hm⟩ := h.pm.mp
  have HO := hide (fun w' (hb : Below w.heap.size w w') => h.below hb)
  have HM := hide (fun w' (hb : Below w.heap.size w w') => hm.below hb)
  have d7 := h.kl.d7
  have HBL := hide (show b < w.heap.size from hm.lt)
  have HND := hide (show (m.map Lc.i).Nodup by rw [← kL_keys]; exact hm.nd)
  have HRP := hide (fun e (he : e ∈ m) => h.kl.rep (hp.mem_iff.1 he))
  have HF := hide (show m.foldl topE x.d = topL x from topF_perm hp d7 (fun e he => h.kl.rep (hp.mem_iff.1 he)))
  have HT := hide (show Tz w (((w.alloc (.cells (cA zero7) 26)).alloc (.cells (cA x.d) 26))) x.d from
    ⟨(Row.new w _ _).alloc _, by have h1 := Row.new (w.alloc (.cells (cA zero7) 26)) 26 (cA x.d); have hs : (w.alloc (.cells (cA zero7) 26)).heap.size = w.heap.size + 1 := by simp
                                 rw [hs] at h1; exact h1, kept_alloc (kept_alloc (kept_refl w) _) _⟩)
  have HCU := hide (fun w' (hb : Below w.heap.size w w') => (h.below hb).cuts)
  have HKN := hide (fun w' (hb : Below w.heap.size w w') => (h.below hb).known)
  have H7 := hide d7
  rw [← HF.out]
  obtain ⟨d, hd⟩ : ∃ d, x.d = d := ⟨_, rfl⟩
  rw [hd] at HT HCU H7 HF ⊢
  have HA1 := hide (kept_alloc (kept_refl w) (.cells (cA zero7) 26))
  clear h d7 hd hp hm HF
  go_enter Tryz.func14, Tryz.ntmps14
  go_upto_region 1 with (fail)
  have hz : #[Value.int IntKind.i64 0, Value.int IntKind.i64 0, Value.int IntKind.i64 0, Value.int IntKind.i64 0, Value.int IntKind.i64 0, Value.int IntKind.i64 0, Value.int IntKind.i64 0] = cA zero7 := rfl
  rw [hz]
  clear hz
  have hs : (w.alloc (.cells (cA zero7) 26)).heap.size = w.heap.size + 1 := by simp
  generalize w.alloc (.cells (cA zero7) 26) = w0 at HA1 HT hs ⊢
  have HS0 := hide hs
  clear hs
  go_upto_region 2 with (first
    | ((with_reducible refine wpList_load_de H7.out ?_ ?_ (HCU.out _ HA1.out) ?_); rfl; rfl)
    | ((with_reducible refine wpList_store_new (vs := cA d) ?_ ?_ (de_all _) ?_ ?_ ?_); (rw [cA_seven H7.out]; exact de_info); exact (cA_seven H7.out).symm; rfl; rfl))
  try simp only [Act.put]
  clear HA1 HCU
  generalize w0.alloc (.cells (cA d) 26) = w1 at HT ⊢
  rw [HS0.out]
  clear HS0
  have x0 := HKN.out _ HT.out.low
  go_wp2_with (first
    | (at_range; refine wpList_range_mp (HM.out _ HT.out.low) rfl _ rfl Tryz.underlying60 rfl ?_; intro w3 left0 hrg0 hd0 hb0)
    | go_in)
  have HN := hide (show w.heap.size + 1 < w1.heap.size from HT.out.b.lt)
  replace HT := hide (HT.out.below hb0)
  have HD0 := hide (doneG_nil hd0)
  have HR0 := hide hrg0
  clear hd0 hrg0 hb0 x0
  generalize w1.heap.size = gr at HN HR0 ⊢
  go_frame
  go_loopw [] (fun wr => ∃ left, Rgm wr b gr (kL m) left ∧ Hid (Tz w wr ((doneG m left).foldl topE d))) (fun wr => wr.rangeLeft b gr)
  case atStart => exact ⟨_, HR0.out, hide (by rw [HD0.out]; exact HT.out)⟩
  case round =>
    clear HT HR0 HD0
    obtain ⟨left, hrg, HT⟩ := hrel
    go_wp2_with (first
      | (at_next; refine wpList_next_rg hrg rfl _ rfl rfl ?_ ?_)
      | go_in)
    · intro hall
      have HE := hide (show (doneG m left).foldl topE d = m.foldl topE d by rw [doneG_all hall])
      clear hall hrg
      have hT7 := hide (show ((doneG m left).foldl topE d).length = 7 by rw [topF_len, H7.out])
      have HTB := hide (HT.out.b.mid (A := []) (ys := cellsR ((doneG m left).foldl topE d)) (B := []) (o := 0) (by unfold cA; simp) rfl)
      obtain ⟨T, hT⟩ : ∃ T, (doneG m left).foldl topE d = T := ⟨_, rfl⟩
      rw [hT] at HT hT7 HTB HE
      clear hT
      go_wp2_with (first
        | ((with_reducible refine wpList_load_de hT7.out ?_ ?_ HTB.out ?_); rfl; rfl)
        | ((with_reducible refine wpList_store_de (d := zero7) rfl hT7.out ?_ ?_ HT.out.a ?_); rfl; rfl; intro w3 hx hg; have HX := hide hx; have HB := hide (below_own HT.out.low hg (Nat.le_refl _)); clear hx hg))
      exact bodyPost_ret (results_de Tryz.results14 rfl HX.out hT7.out) rfl ⟨by rw [HE.out], HB.out⟩
    · intro er0 es0 ev w4 hm hrg4 hpm hlt hg4 hen
      obtain ⟨e, hem, heq⟩ := mem_kL.1 hm
      obtain rfl : e.i.1 = er0 := congrArg (fun z => z.1.1) heq
      obtain rfl : e.i.2 = es0 := congrArg (fun z => z.1.2) heq
      obtain rfl : Value.agg (clC e.c) = ev := congrArg (fun z => z.2) heq
      obtain ⟨q0, q7⟩ := HRP.out e hem
      have HST := hide (doneG_step hpm HND.out hem)
      have HT4 := hide (HT.out.grown hg4 HN.out)
      have HB5 := hide (kept_alloc (kept_refl w4) (.cells #[.int .i64 e.i.1, .int .i64 e.i.2] 30))
      have V1 := hide (Row.new w4 30 #[.int .i64 e.i.1, .int .i64 e.i.2])
      have HRG := hide (hrg4.below HB5.out)
      have HLT := hide (show (w4.alloc (.cells #[.int .i64 e.i.1, .int .i64 e.i.2] 30)).rangeLeft b gr < wr.rangeLeft b gr by rw [hrg4.left_below HB5.out]; exact hlt)
      have HT5 := hide (HT4.out.below HB5.out)
      have HMM := hide (show ∀ f, f ∈ doneG m left → 0 ≤ f.i.1 ∧ f.i.1 < 7 from fun f hf => HRP.out f (List.mem_filter.1 hf).1)
      clear heq hm hpm hg4 hrg hrg4 hlt HT4 HT
      try go_frame
      go_upto_region 5 with (fail)
      generalize w4.alloc (.cells #[.int .i64 e.i.1, .int .i64 e.i.2] 30) = w5 at HB5 V1 HRG HLT HT5 ⊢
      generalize w4.heap.size = v at V1 HB5 ⊢
      clear hen HB5
      obtain ⟨r, hr⟩ : ∃ r : Nat, e.i.1 = r := ⟨e.i.1.toNat, by omega⟩
      have hr7 : r < 7 := by omega
      have hr7i : (r : Int) < 7 := by omega
      have hr0 : (0 : Int) ≤ (r : Int) := by omega
      have hD7 : ((doneG m left).foldl topE d).length = 7 := by rw [topF_len, H7.out]
      have HEQ := hide (show (doneG m (strikeL left (e.i.1, e.i.2))).foldl topE d = topE ((doneG m left).foldl topE d) e from by
        have hp := HST.out
        rw [topF_perm hp H7.out (fun f hf => HRP.out f (List.mem_filter.1 hf).1), List.foldl_append]
        rfl)
      clear HST HMM
      generalize (doneG m left).foldl topE d = D at HT5 hD7 HEQ
      have v0 : w5.cell? ⟨v, 0, none⟩ = some (.int .i64 r) := by have := V1.out.cell 0; rw [hr] at this; exact this
      have v1 : w5.cell? ⟨v, 1, none⟩ = some (.int .i64 e.i.2) := V1.out.cell 1
      have c0 : w5.cell? ⟨w.heap.size + 1, r, none⟩ = some (.int .i64 (ix D r)) := cA_cellk HT5.out.b (by rw [hD7]; exact hr7)
      have f0 := HT5.out.b.free r
      have hgs := grown_put (grown_refl w5 (some (w.heap.size + 1))) r (.int .i64 (max (ix D r) e.i.2))
      have n1 : some b ≠ some (w.heap.size + 1) := fun e => absurd (Option.some.inj e) (by have := HBL.out; omega)
      have n2 : some gr ≠ some (w.heap.size + 1) := fun e => absurd (Option.some.inj e) (by have := HN.out; omega)
      have hk1 := HRG.out.kept hgs n1 n2
      have HRK := hide (hk1.below (kept_drewN (kept_refl _) 1))
      have HLK := hide (show (World.drewN (w5.setCell ⟨w.heap.size + 1, r, none⟩ (.int .i64 (max (ix D r) e.i.2))) 1).rangeLeft b gr < wr.rangeLeft b gr by rw [hk1.left_below (kept_drewN (kept_refl _) 1), HRG.out.left_kept hgs n1 n2]; exact HLT.out)
      replace HRK : Hid (Rgm (w5.setCell ⟨w.heap.size + 1, r, none⟩ (.int .i64 (max (ix D r) e.i.2))).drew b gr (kL m) (strikeL left (e.i.1, e.i.2))) := HRK
      replace HLK : Hid ((w5.setCell ⟨w.heap.size + 1, r, none⟩ (.int .i64 (max (ix D r) e.i.2))).drew.rangeLeft b gr < wr.rangeLeft b gr) := HLK
      have HS := hide (show Tz w (w5.setCell ⟨w.heap.size + 1, r, none⟩ (.int .i64 (max (ix D r) e.i.2))).drew ((doneG m (strikeL left (e.i.1, e.i.2))).foldl topE d) from by
        rw [HEQ.out]
        unfold topE
        rw [hr, Int.toNat_natCast]
        exact (HT5.out.put r _).drew)
      clear hgs hk1 n1 n2 HT5 HRG HLT hD7 HEQ q0 q7 hr
      go_region
      clear v0 v1 c0 f0
      generalize World.drew (World.setCell w5 _ _) = wv at HS HRK HLK ⊢
      refine ⟨?_, HLK.out⟩
      repeat apply Exists.intro
      exact ⟨⟨_, HRK.out, HS⟩, rfl⟩
end Go.Proofs.YtiaegloipnhhdaaGreat
