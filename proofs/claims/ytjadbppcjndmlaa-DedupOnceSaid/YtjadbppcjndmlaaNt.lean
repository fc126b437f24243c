/- Package dedup's Note. Conditions: the lists of pairs lie in memory, none is great. -/
import Derived.Test.YtjadbppcjndmlaaSt
namespace Go.Proofs.Ytjadbppcjndmlaa
open Go.RowKit
def noteO (l : List Ow) (c s : Int) (r : Re) : List Ow := if cliB c = true then l.set (c - 1).toNat ⟨s, r⟩ else l
/-- Eight owners whose pairs are new are answered. -/
def AnsN (w : World) (l : List Ow) (e : Ending) (w' : World) : Prop := ∃ M, e = .returned (.agg (arr M)) ∧ ows M = l ∧ M.length = 8 ∧ (∀ x, x ∈ M → Mine w.heap.size w' x.p x.o.r.l) ∧ Below w.heap.size w w'
theorem ows_len (L : List Co) : (ows L).length = L.length := List.length_map _
theorem ows_set (L : List Co) (k : Nat) (y : Co) : ows (L.set k y) = (ows L).set k y.o := by unfold ows; rw [List.map_set]
theorem Mine.setRow {b : Nat} {w : World} {v : Value} {l : List Pr} (h : Mine b w v l) {g : Nat} (hg : g < b) (cs : Array Value) : Mine b (w.setRow g cs) v l := by
  have hl := h.lt
  unfold Mine at h ⊢
  refine h.kept (setRow_grown w g cs) ?_
  cases hv : v.ownBlock with
  | none => exact .inl rfl
  | some k => exact .inr (fun e => by
      have h1 := hl k hv
      injection e with e
      omega)
theorem Mine.below {b : Nat} {w w' : World} {v : Value} {l : List Pr} (h : Mine b w v l) (hb : Below w.heap.size w w') : Mine b w' v l := by
  unfold Mine at h ⊢
  exact h.kept (grown_below hb) (by cases v.ownBlock <;> simp)
/-- Behind a round: the first k are new. -/
structure Nk (W w : World) (L : List Ow) (M : List Co) (k : Nat) : Prop where
  row : Row w W.heap.size 28 (arr M)
  res : Row w (W.heap.size + 1 + 1) 28 (arr zeroL)
  is : ows M = L
  len : M.length = 8
  new : ∀ j x, j < k → M[j]? = some x → Mine (W.heap.size + 1 + 1 + 1) w x.p x.o.r.l
  old : ∀ j x, k ≤ j → M[j]? = some x → Pin W x.p x.o.r.l ∧ x.o.r.l.length ≤ 3518437208780
  bel : Below W.heap.size W w
/-- The three blocks that the call begins with. -/
structure N0 (W w : World) (L : List Co) (r : Re) (p : Value) : Prop where
  row : Row w W.heap.size 28 (arr L)
  rep : Row w (W.heap.size + 1) 25 #[.int .i64 r.why, .bool r.fnd, .string r.val, .int .i64 r.ver, p]
  res : Row w (W.heap.size + 1 + 1) 28 (arr zeroL)
  bel : Below W.heap.size W w
theorem N0.new (w : World) (L : List Co) (r : Re) (p : Value) : N0 w (((w.alloc (.cells (arr L) 28)).alloc (.cells #[.int .i64 r.why, .bool r.fnd, .string r.val, .int .i64 r.ver, p] 25)).alloc (.cells (arr zeroL) 28)) L r p := by
  have R0 := Row.new w 28 (arr L)
  have B0 := kept_alloc (kept_refl w) (.cells (arr L) 28)
  have s0 : (w.alloc (.cells (arr L) 28)).heap.size = w.heap.size + 1 := by simp
  generalize w.alloc (.cells (arr L) 28) = w1 at *
  have R1 := Row.new w1 25 #[.int .i64 r.why, .bool r.fnd, .string r.val, .int .i64 r.ver, p]
  have B1 := kept_alloc B0 (.cells #[.int .i64 r.why, .bool r.fnd, .string r.val, .int .i64 r.ver, p] 25)
  have R01 := R0.alloc (.cells #[.int .i64 r.why, .bool r.fnd, .string r.val, .int .i64 r.ver, p] 25)
  have s1 : (w1.alloc (.cells #[.int .i64 r.why, .bool r.fnd, .string r.val, .int .i64 r.ver, p] 25)).heap.size = w.heap.size + 1 + 1 := by simp [s0]
  rw [s0] at R1
  generalize w1.alloc (.cells #[.int .i64 r.why, .bool r.fnd, .string r.val, .int .i64 r.ver, p] 25) = w2 at *
  have R2 := Row.new w2 28 (arr zeroL)
  rw [s1] at R2
  exact ⟨R01.alloc _, R1.alloc _, R2, kept_alloc B1 _⟩
theorem N0.same {W w : World} {L : List Co} {r : Re} {p : Value} (h : N0 W w L r p) (hf : Fine W L) : Nk W w (ows L) L 0 :=
  ⟨h.row, h.res, rfl, hf.1, fun j x hj => absurd hj (by omega), fun j x _ hx => hf.2 x (List.mem_of_getElem? hx), h.bel⟩
theorem N0.set {W w : World} {L : List Co} {r : Re} {A : Option Addr} {q k : Nat} {s : Int} (h : N0 W w L r (.slice A r.l.length q)) (hf : Fine W L) (hr : Pin W (.slice A r.l.length q) r.l) (ln : r.l.length ≤ 3518437208780) :
    Nk W (w.setRow W.heap.size (arr (L.set k ⟨⟨s, r⟩, A, q⟩))) ((ows L).set k ⟨s, r⟩) (L.set k ⟨⟨s, r⟩, A, q⟩) 0 :=
  ⟨h.row.setRow _, h.res.setRow_other (by omega) _, ows_set L k _, by rw [List.length_set]; exact hf.1, fun j x hj => absurd hj (by omega), fun j x _ hx => by
    rw [List.getElem?_set] at hx
    split at hx
    · split at hx
      · cases hx; exact ⟨hr, ln⟩
      · cases hx
    · exact hf.2 x (List.mem_of_getElem? hx), below_setRow h.bel (Nat.le_refl _) _⟩
theorem Nk.at_ {W w : World} {L : List Ow} {M : List Co} {k : Nat} (h : Nk W w L M k) (hk : k < 8) : ∃ x, M[k]? = some x ∧ Pin w x.p x.o.r.l ∧ x.o.r.l.length ≤ 3518437208780 := by
  obtain ⟨x, hx⟩ : ∃ x, M[k]? = some x := ⟨_, List.getElem?_eq_getElem (by rw [h.len]; exact hk)⟩
  have := h.old k x (Nat.le_refl _) hx
  exact ⟨x, hx, this.1.below h.bel, this.2⟩
theorem set_at {M : List Co} {k j : Nat} {x y : Co} (hx : (M.set k y)[j]? = some x) : (j = k ∧ x = y) ∨ (j ≠ k ∧ M[j]? = some x) := by
  rw [List.getElem?_set] at hx
  split at hx
  · rename_i e
    split at hx
    · cases hx; exact .inl ⟨e.symm, rfl⟩
    · cases hx
  · rename_i e
    exact .inr ⟨fun h => e h.symm, hx⟩
theorem Nk.next {W w w' : World} {L : List Ow} {M : List Co} {k : Nat} {x : Co} {A : Option Addr} {c : Nat} (h : Nk W w L M k) (hx : M[k]? = some x) (hm : Mine w.heap.size w' (.slice A x.o.r.l.length c) x.o.r.l) (hb : Below w.heap.size w w') :
    Nk W (w'.setRow W.heap.size (arr (M.set k ⟨⟨x.o.s, x.o.r⟩, A, c⟩))) L (M.set k ⟨⟨x.o.s, x.o.r⟩, A, c⟩) (k + 1) := by
  have g2 := h.res.lt
  have g0 := h.row.lt
  refine ⟨(h.row.below hb g0).setRow _, (h.res.below hb g2).setRow_other (by omega) _, ?_, by rw [List.length_set]; exact h.len, fun j y hj hy => ?_, fun j y hj hy => ?_, below_setRow (h.bel.trans (hb.mono (Nat.le_of_lt g0))) (Nat.le_refl _) _⟩
  · rw [ows_set, ← h.is]
    apply List.ext_getElem?
    intro j
    rw [List.getElem?_set]
    split
    · rename_i e
      subst e
      rw [ows_at hx]
      split
      · rfl
      · rename_i hn
        rw [ows_len] at hn
        rw [List.getElem?_eq_none (by omega)] at hx; cases hx
    · rfl
  · rcases set_at hy with ⟨rfl, rfl⟩ | ⟨hne, hy⟩
    · exact (hm.mono (by omega)).setRow (by omega) _
    · exact ((h.new j y (by omega) hy).below hb).setRow (by omega) _
  · rcases set_at hy with ⟨rfl, rfl⟩ | ⟨_, hy⟩
    · omega
    · exact h.old j y (by omega) hy
theorem Nk.done {W w : World} {L : List Ow} {M : List Co} (h : Nk W w L M 8) : AnsN W L (.returned (.agg (arr M))) (w.setRow (W.heap.size + 1 + 1) (arr M)) :=
  ⟨M, rfl, h.is, h.len, fun x hx => by
    obtain ⟨j, hj⟩ := List.getElem?_of_mem hx
    have hl : j < M.length := by
      rcases Nat.lt_or_ge j M.length with h1 | h1
      · exact h1
      · rw [List.getElem?_eq_none h1] at hj; cases hj
    exact ((h.new j x (by rw [h.len] at hl; exact hl) hj).setRow (by omega) _).mono (by omega), below_setRow h.bel (by omega) _⟩
set_option maxRecDepth 100000 in
set_option maxHeartbeats 8000000 in
theorem note_any (L : List Co) (c s : Int) (r : Re) (A : Option Addr) (q : Nat) (w : World) (h : Fine w L) (hr : Pin w (.slice A r.l.length q) r.l) (ln : r.l.length ≤ 3518437208780) :
    Calls Try.prog 8 #[.agg (arr L), .int .i64 c, .int .i64 s, .agg #[.int .i64 r.why, .bool r.fnd, .string r.val, .int .i64 r.ver, .slice A r.l.length q]] w (AnsN w (noteO (ows L) c s r)) := by
  have HC := hide (fun w => cli_any c w)
  have HN := hide (N0.new w L r (.slice A r.l.length q))
  have HF := hide h
  have HP := hide hr
  clear h hr
  cases hc : cliB c
  · have e : noteO (ows L) c s r = ows L := by unfold noteO; rw [hc]; rfl
    rw [e]
    obtain ⟨V, hV⟩ : ∃ V, ows L = V := ⟨_, rfl⟩
    rw [hV]
    have HV := hide hV
    rw [hc] at HC
    clear e hc hV
    go_enter Try.func8, Try.ntmps8
    go_upto_region 1 with (fail)
    rw [zero_arr]
    generalize ((w.alloc (.cells (arr L) 28)).alloc (.cells #[.int .i64 r.why, .bool r.fnd, .string r.val, .int .i64 r.ver, .slice A r.l.length q] 25)).alloc (.cells (arr zeroL) 28) = w3 at HN ⊢
    have HK := hide (HN.out.same HF.out)
    rw [HV.out] at HK
    go_upto_region 3 with (go_at_call 17; (with_reducible refine (HC.out _).mono ?_); rintro e w1 ⟨rfl, rfl⟩)
    go_wp2
    go_loopw [18] (fun i wr => ∃ (k : Nat) (M : List Co), k ≤ 8 ∧ i = .int .i64 k ∧ Hid (Nk w wr V M k)) (fun i _ => 8 - (intOf i).toNat)
    case atStart => exact ⟨0, _, by omega, rfl, HK⟩
    case round =>
      obtain ⟨k, M, hk, rfl, HM⟩ := hrel
      by_cases hlt : k < 8
      · obtain ⟨x, hx, hp, hn⟩ := HM.out.at_ hlt
        obtain ⟨d0, d1, d2, d3, d4, d5⟩ := HM.out.row.owner hx
        have hlt' : (k : Int) < 8 := by omega
        have HX := hide hx
        have HA := hide (apart_any x.o.r _ wr hp hn)
        have H8 := hide HM.out.len
        have g0 := HM.out.row.lt
        clear hx hp hn d0
        unfold Co.p at d5 HA
        go_wp2_with (first | (go_at_call 18; (with_reducible refine HA.out.mono ?_); rintro e w4 ⟨p, rfl, ho4, hb4⟩; obtain ⟨A4, c4, rfl, _, _, _, _⟩ := ho4.pin; have S := hide (HM.out.row.below hb4 g0)) | ((with_reducible refine wpList_storeR (k := k) (r := x.o.r) (A := A4) (c := c4) ?_ ?_ S.out H8.out HX.out ?_); rfl; rfl))
        go_roundw
        case rel => exact ⟨k + 1, _, by omega, by go_num, hide (HM.out.next HX.out ho4 hb4)⟩
        case measure => simp [intOf]; omega
      · obtain rfl : k = 8 := by omega
        have R0 := hide HM.out.row
        have R2 := hide HM.out.res
        have H8 := hide HM.out.len
        go_wp2_with (first | ((with_reducible refine wpList_load8 ?_ R0.out H8.out ?_); rfl) | ((with_reducible refine wpList_store8 ?_ ?_ R2.out (L := zeroL) rfl H8.out ?_); rfl; rfl))
        exact bodyPost_ret (results8 Try.results8 rfl (R2.out.setRow _) H8.out) rfl HM.out.done
  · obtain ⟨k, hk, hk1, hk2, hk3⟩ := cli_place hc
    have e : noteO (ows L) c s r = (ows L).set k ⟨s, r⟩ := by unfold noteO; rw [if_pos hc, hk2]
    rw [e]
    obtain ⟨V, hV⟩ : ∃ V, (ows L).set k ⟨s, r⟩ = V := ⟨_, rfl⟩
    rw [hV]
    have HV := hide hV
    rw [hc] at HC
    obtain ⟨x, hx⟩ : ∃ x, L[k]? = some x := ⟨_, List.getElem?_eq_getElem (by rw [HF.out.1]; exact hk)⟩
    have HX := hide hx
    have H8 := hide HF.out.1
    clear e hc hV hk1 hk2 hx
    go_enter Try.func8, Try.ntmps8
    go_upto_region 1 with (fail)
    rw [zero_arr]
    generalize ((w.alloc (.cells (arr L) 28)).alloc (.cells #[.int .i64 r.why, .bool r.fnd, .string r.val, .int .i64 r.ver, .slice A r.l.length q] 25)).alloc (.cells (arr zeroL) 28) = w3 at HN ⊢
    have HK := hide (HN.out.set (k := k) (s := s) HF.out HP.out ln)
    rw [HV.out] at HK
    obtain ⟨d0, d1, d2, d3, d4⟩ := HN.out.rep.five
    have S := hide HN.out.row
    go_upto_region 3 with (first | (go_at_call 17; (with_reducible refine (HC.out _).mono ?_); rintro e w1 ⟨rfl, rfl⟩) | ((with_reducible refine wpList_storeO (k := k) (o' := ⟨⟨s, r⟩, A, q⟩) ?_ ?_ S.out H8.out HX.out ?_); rfl; rfl))
    clear d0 d1 d2 d3 d4 S HX H8 hk hk3
    generalize w3.setRow w.heap.size (arr (L.set k ⟨⟨s, r⟩, A, q⟩)) = w4 at HK ⊢
    go_wp2
    go_loopw [18] (fun i wr => ∃ (k : Nat) (M : List Co), k ≤ 8 ∧ i = .int .i64 k ∧ Hid (Nk w wr V M k)) (fun i _ => 8 - (intOf i).toNat)
    case atStart => exact ⟨0, _, by omega, rfl, HK⟩
    case round =>
      obtain ⟨k, M, hk, rfl, HM⟩ := hrel
      by_cases hlt : k < 8
      · obtain ⟨x, hx, hp, hn⟩ := HM.out.at_ hlt
        obtain ⟨d0, d1, d2, d3, d4, d5⟩ := HM.out.row.owner hx
        have hlt' : (k : Int) < 8 := by omega
        have HX := hide hx
        have HA := hide (apart_any x.o.r _ wr hp hn)
        have H8 := hide HM.out.len
        have g0 := HM.out.row.lt
        clear hx hp hn d0
        unfold Co.p at d5 HA
        go_wp2_with (first | (go_at_call 18; (with_reducible refine HA.out.mono ?_); rintro e w4 ⟨p, rfl, ho4, hb4⟩; obtain ⟨A4, c4, rfl, _, _, _, _⟩ := ho4.pin; have S := hide (HM.out.row.below hb4 g0)) | ((with_reducible refine wpList_storeR (k := k) (r := x.o.r) (A := A4) (c := c4) ?_ ?_ S.out H8.out HX.out ?_); rfl; rfl))
        go_roundw
        case rel => exact ⟨k + 1, _, by omega, by go_num, hide (HM.out.next HX.out ho4 hb4)⟩
        case measure => simp [intOf]; omega
      · obtain rfl : k = 8 := by omega
        have R0 := hide HM.out.row
        have R2 := hide HM.out.res
        have H8 := hide HM.out.len
        go_wp2_with (first | ((with_reducible refine wpList_load8 ?_ R0.out H8.out ?_); rfl) | ((with_reducible refine wpList_store8 ?_ ?_ R2.out (L := zeroL) rfl H8.out ?_); rfl; rfl))
        exact bodyPost_ret (results8 Try.results8 rfl (R2.out.setRow _) H8.out) rfl HM.out.done
end Go.Proofs.Ytjadbppcjndmlaa
