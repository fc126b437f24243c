/- The document's Copy and Twin, the program's apart: a reply, a state in new memory. Conditions: the lists of pairs lie in memory, none is great. -/
import Derived.Test.YtahfpncfkcfogaaGj
import Derived.Test.YtahfpncfkcfogaaGc
import Derived.Test.YtahfpncfkcfogaaGi
import Derived.Test.YtahfpncfkcfogaaGk
import Derived.Test.YtahfpncfkcfogaaGa
namespace Go.Proofs.Ytahfpncfkcfogaa
set_option maxRecDepth 100000
open Go.RowKit
set_option maxHeartbeats 2000000 in
theorem copy_any (r : Re) (p : Value) (w : World) (h : Pin w p r.l) (ln : r.l.length ≤ 3518437208780) :
    Calls Try.prog 37 #[.agg #[.int .i64 r.why, .bool r.fnd, .string r.val, .int .i64 r.ver, p]] w (AnsR w r) := by
  obtain ⟨A, c, rfl, hA, hc, hcc, hl⟩ := h
  have HL := hide hl
  clear hl
  go_enter Try.func37, Try.ntmps37
  go_upto_region 1 with (fail)
  have R1 := (Row.new w 25 #[.int .i64 r.why, .bool r.fnd, .string r.val, .int .i64 r.ver, .slice A r.l.length c]).alloc (.cells #[.int .i64 0, .bool false, .string { data := #[] }, .int .i64 0, .slice none 0 0] 25)
  have R2 := Row.new (w.alloc (.cells #[.int .i64 r.why, .bool r.fnd, .string r.val, .int .i64 r.ver, .slice A r.l.length c] 25)) 25 #[.int .i64 0, .bool false, .string { data := #[] }, .int .i64 0, .slice none 0 0]
  have hs : (w.alloc (.cells #[.int .i64 r.why, .bool r.fnd, .string r.val, .int .i64 r.ver, .slice A r.l.length c] 25)).heap.size = w.heap.size + 1 := by simp
  rw [hs] at R2
  clear hs
  have hb := kept_alloc (kept_alloc (kept_refl w) (.cells #[.int .i64 r.why, .bool r.fnd, .string r.val, .int .i64 r.ver, .slice A r.l.length c] 25)) (.cells #[.int .i64 0, .bool false, .string { data := #[] }, .int .i64 0, .slice none 0 0] 25)
  have hl2 := HL.out.below hb
  have HB := hide hb
  generalize ((w.alloc (.cells #[.int .i64 r.why, .bool r.fnd, .string r.val, .int .i64 r.ver, .slice A r.l.length c] 25)).alloc (.cells #[.int .i64 0, .bool false, .string { data := #[] }, .int .i64 0, .slice none 0 0] 25)) = w2 at R1 R2 hl2 HB ⊢
  have OW := hide (Mine.made (base := w2.heap.size) (w := w2) (Nat.le_refl _))
  have HL1 := hide (hl2.alloc (.cells #[] 47))
  have HB1 := hide (kept_alloc (kept_refl w2) (.cells #[] 47))
  have hsz := HB1.out.size
  have g0 : w.heap.size < w2.heap.size := R1.lt
  have g1 : w.heap.size + 1 < w2.heap.size := R2.lt
  have HR1 := hide R1
  have HR2 := hide R2
  obtain ⟨c0, c1, c2, c3, c4⟩ := R1.five
  clear hb hl2 R1 R2
  go_upto_region 2 with (at_builtin; refine wpList_append_mine rfl (.tmp 3) (.tmp 5) rfl rfl OW.out A r.l.length c rfl rfl hA HL1.out (by simp; omega) hsz ?_; intro v3 w3 ho3 hb3; have ho3 : Mine w2.heap.size w3 v3 r.l := ho3; have hb3 : Below w2.heap.size w2 w3 := HB1.out.grown hb3 hsz (fun k hk => OW.out.lt k hk); obtain ⟨A3, c3, rfl, _, _, _, _⟩ := ho3.pin; have S1 := HR1.out.below hb3 g0; have d4 := S1.cell 4; have f4 := S1.free 4)
  clear c0 c1 c2 c4
  have S1 := HR1.out.below hb3 g0
  have S2 := HR2.out.below hb3 g1
  have T1 := S1.put 4 (.slice A3 r.l.length c3)
  have T2 : Row (w3.setCell ⟨w.heap.size, 4, none⟩ (.slice A3 r.l.length c3)) (w.heap.size + 1) 25 _ := S2.same (Below.heap_setCell w3 ⟨w.heap.size, 4, none⟩ _ (w.heap.size + 1) (by simp))
  have HM := hide (ho3.put g0 4 (.slice A3 r.l.length c3))
  have HB3 := hide ((kept_trans HB.out hb3).setCell (p := ⟨w.heap.size, 4, none⟩) (Nat.le_refl _) (.slice A3 r.l.length c3))
  clear S1 S2 ho3 hb3 HR1 HR2 HB OW HL1 HB1 hsz
  generalize (w3.setCell ⟨w.heap.size, 4, none⟩ (.slice A3 r.l.length c3)) = w4 at T1 T2 HM HB3 ⊢
  obtain ⟨c0, c1, c2, c5, c4⟩ := Row.five (T1.same rfl)
  obtain ⟨e0, e1, e2, e5, e4⟩ := T2.five
  have f0 := T2.free 0
  have f1 := T2.free 1
  have f2 := T2.free 2
  have f3 := T2.free 3
  have f4 := T2.free 4
  have HT := hide T2
  clear T1 T2
  go_wp2
  exact bodyPost_ret (results_row5 Try.results37 rfl (HT.out.five_put _ _ _ _ _)) rfl ⟨_, rfl, ((((((HM.out.put g1 0 _).put g1 1 _).put g1 2 _).put g1 3 _).put g1 4 _).mono (Nat.le_of_lt g0)), ((((HB3.out.setCell (p := ⟨w.heap.size + 1, 0, none⟩) (Nat.le_succ _) _).setCell (p := ⟨w.heap.size + 1, 1, none⟩) (Nat.le_succ _) _).setCell (p := ⟨w.heap.size + 1, 2, none⟩) (Nat.le_succ _) _).setCell (p := ⟨w.heap.size + 1, 3, none⟩) (Nat.le_succ _) _).setCell (p := ⟨w.heap.size + 1, 4, none⟩) (Nat.le_succ _) _⟩
theorem stc_put0 (p q : Value) (L : List Co) : (stc p L).setIfInBounds 0 q = stc q L := by
  apply Array.toList_inj.1
  rw [Array.toList_setIfInBounds, stc_list, stc_list]; rfl
theorem stc_put5 {L : List Co} {k : Nat} {o : Co} (p : Value) (ho : L[k]? = some o) (hl : L.length = 8) (A : Option Addr) (c : Nat) : (stc p L).setIfInBounds (1 + k * 6 + 5) (.slice A o.o.r.l.length c) = stc p (L.set k ⟨o.o, A, c⟩) := by
  have h6 := six_fit ho hl
  have hz := arr_size hl
  have hc : ∀ j, j < 5 → (stc p L).toList[1 + k * 6 + j]? = o.cs[j]? := fun j hj => by
    rw [Array.getElem?_toList, Nat.add_assoc, stc_at, arr_at ho j (by omega)]
  have e0 : (stc p L).toList.take (1 + k * 6 + 5) = (stc p L).toList.take (1 + k * 6) ++ [.int .i64 o.o.s, .int .i64 o.o.r.why, .bool o.o.r.fnd, .string o.o.r.val, .int .i64 o.o.r.ver] := by
    rw [show 1 + k * 6 + 5 = 1 + k * 6 + 4 + 1 from rfl, List.take_add_one, hc 4 (by omega), show 1 + k * 6 + 4 = 1 + k * 6 + 3 + 1 from rfl, List.take_add_one, hc 3 (by omega), show 1 + k * 6 + 3 = 1 + k * 6 + 2 + 1 from rfl, List.take_add_one, hc 2 (by omega), show 1 + k * 6 + 2 = 1 + k * 6 + 1 + 1 from rfl, List.take_add_one, hc 1 (by omega), List.take_add_one, show 1 + k * 6 = 1 + k * 6 + 0 from rfl, hc 0 (by omega)]
    simp [Co.cs]
  rw [← stc_set p ho ⟨o.o, A, c⟩]
  apply Array.toList_inj.1
  rw [Array.toList_setIfInBounds, List.set_eq_take_append_cons_drop, if_pos (by rw [Array.length_toList, stc_size p hl]; omega), e0]
  simp [Co.cs, Co.p]
/-- A state is answered, in new memory. -/
def AnsT (w : World) (s : Sm) (e : Ending) (w' : World) : Prop := ∃ p M, e = .returned (.agg (stc p M)) ∧ NewS w.heap.size w' p M s ∧ Below w.heap.size w w'
theorem results49 {fn : Func} {tmps : Array Value} {w : World} {a h : Nat} {t : TypeId} {p : Value} {M : List Co} (hf : fn.results = #[.cell a 30]) (ht : tmps[a]? = some (.pointer (some ⟨h, 0, none⟩))) (hr : Row w h t (stc p M)) (hl : M.length = 8) :
    (results fn tmps).run Try.prog w = .ok (.agg (stc p M)) w := by
  have hld := run_loadVar_row w h t 30 (stc p M) (0, 0) _ hr under_state rfl (by rw [stc_size p hl]; exact info_state)
  simp only [results, hf]
  simp [asAddr, ht, hld]
/-- Behind a round: the pairs, and the first k owners', are new. -/
structure Tk (W w : World) (s : Sm) (p : Value) (M : List Co) (k : Nat) : Prop where
  row : Row w W.heap.size 30 (stc p M)
  res : Row w (W.heap.size + 1) 30 (stc (.slice none 0 0) zeroL)
  pin : Mine (W.heap.size + 1 + 1) w p s.l
  room : s.l.length ≤ 3518437208780
  is : ows M = s.o
  len : M.length = 8
  new : ∀ j x, j < k → M[j]? = some x → Mine (W.heap.size + 1 + 1) w x.p x.o.r.l ∧ x.o.r.l.length ≤ 3518437208780
  old : ∀ j x, k ≤ j → M[j]? = some x → Pin W x.p x.o.r.l ∧ x.o.r.l.length ≤ 3518437208780
  bel : Below W.heap.size W w
/-- The two blocks that the call begins with. -/
structure T0 (W w : World) (p : Value) (L : List Co) : Prop where
  row : Row w W.heap.size 30 (stc p L)
  res : Row w (W.heap.size + 1) 30 (stc (.slice none 0 0) zeroL)
  bel : Below W.heap.size W w
theorem T0.new (w : World) (p : Value) (L : List Co) : T0 w ((w.alloc (.cells (stc p L) 30)).alloc (.cells (stc (.slice none 0 0) zeroL) 30)) p L := by
  have R0 := Row.new w 30 (stc p L)
  have B0 := kept_alloc (kept_refl w) (.cells (stc p L) 30)
  have s0 : (w.alloc (.cells (stc p L) 30)).heap.size = w.heap.size + 1 := by simp
  generalize w.alloc (.cells (stc p L) 30) = w1 at *
  have R1 := Row.new w1 30 (stc (.slice none 0 0) zeroL)
  rw [s0] at R1
  exact ⟨R0.alloc _, R1, kept_alloc B0 _⟩
/-- The pairs are new. -/
theorem T0.pairs {W w w' : World} {p : Value} {L : List Co} {s : Sm} {A : Option Addr} {c : Nat} (h : T0 W w p L) (hs : IsS W p L s) (hm : Mine w.heap.size w' (.slice A s.l.length c) s.l) (hb : Below w.heap.size w w') :
    Tk W (w'.setRow W.heap.size (stc (.slice A s.l.length c) L)) s (.slice A s.l.length c) L 0 := by
  have g2 := h.res.lt
  have g0 := h.row.lt
  exact ⟨(h.row.below hb g0).setRow _, (h.res.below hb g2).setRow_other (by omega) _, (hm.mono (by omega)).setRow (by omega) _, hs.room, hs.is, hs.fine.1, fun j x hj => absurd hj (by omega), fun j x _ hx => hs.fine.2 x (List.mem_of_getElem? hx), below_setRow (h.bel.trans (hb.mono (Nat.le_of_lt g0))) (Nat.le_refl _) _⟩
theorem T0.pairsC {W w w' : World} {p : Value} {L : List Co} {s : Sm} {A : Option Addr} {c : Nat} (h : T0 W w p L) (hs : IsS W p L s) (hm : Mine w.heap.size w' (.slice A s.l.length c) s.l) (hb : Below w.heap.size w w') :
    Tk W (w'.setCell ⟨W.heap.size, 0, none⟩ (.slice A s.l.length c)) s (.slice A s.l.length c) L 0 := by
  rw [setCell_eq_setRow w' _ 0 _ _ (0, 0) _ (h.row.below hb h.row.lt), stc_put0]
  exact h.pairs hs hm hb
theorem Tk.at_ {W w : World} {s : Sm} {p : Value} {M : List Co} {k : Nat} (h : Tk W w s p M k) (hk : k < 8) : ∃ x, M[k]? = some x ∧ Pin w x.p x.o.r.l ∧ x.o.r.l.length ≤ 3518437208780 := by
  obtain ⟨x, hx⟩ : ∃ x, M[k]? = some x := ⟨_, List.getElem?_eq_getElem (by rw [h.len]; exact hk)⟩
  have := h.old k x (Nat.le_refl _) hx
  exact ⟨x, hx, this.1.below h.bel, this.2⟩
theorem ows_keep {M : List Co} {k : Nat} {x : Co} (hx : M[k]? = some x) (A : Option Addr) (c : Nat) : ows (M.set k ⟨x.o, A, c⟩) = ows M := by
  rw [ows_set]
  apply List.ext_getElem?
  intro j
  rw [List.getElem?_set]
  split
  · rename_i e
    subst e
    rw [ows_at hx]
    split
    · rfl
    · rename_i hn
      rw [ows_len] at hn
      rw [List.getElem?_eq_none (by omega)] at hx; cases hx
  · rfl
theorem Tk.next {W w w' : World} {s : Sm} {p : Value} {M : List Co} {k : Nat} {x : Co} {A : Option Addr} {c : Nat} (h : Tk W w s p M k) (hx : M[k]? = some x) (hm : Mine w.heap.size w' (.slice A x.o.r.l.length c) x.o.r.l) (ln : x.o.r.l.length ≤ 3518437208780) (hb : Below w.heap.size w w') :
    Tk W (w'.setRow W.heap.size (stc p (M.set k ⟨x.o, A, c⟩))) s p (M.set k ⟨x.o, A, c⟩) (k + 1) := by
  have g2 := h.res.lt
  have g0 := h.row.lt
  refine ⟨(h.row.below hb g0).setRow _, (h.res.below hb g2).setRow_other (by omega) _, (h.pin.below hb).setRow (by omega) _, h.room, (ows_keep hx A c).trans h.is, by rw [List.length_set]; exact h.len, fun j y hj hy => ?_, fun j y hj hy => ?_, below_setRow (h.bel.trans (hb.mono (Nat.le_of_lt g0))) (Nat.le_refl _) _⟩
  · rcases set_at hy with ⟨rfl, rfl⟩ | ⟨hne, hy⟩
    · exact ⟨(hm.mono (by omega)).setRow (by omega) _, ln⟩
    · exact ⟨((h.new j y (by omega) hy).1.below hb).setRow (by omega) _, (h.new j y (by omega) hy).2⟩
  · rcases set_at hy with ⟨rfl, rfl⟩ | ⟨_, hy⟩
    · omega
    · exact h.old j y (by omega) hy
theorem Tk.nextC {W w w' : World} {s : Sm} {p : Value} {M : List Co} {k : Nat} {x : Co} {A : Option Addr} {c : Nat} (h : Tk W w s p M k) (hx : M[k]? = some x) (hm : Mine w.heap.size w' (.slice A x.o.r.l.length c) x.o.r.l) (ln : x.o.r.l.length ≤ 3518437208780) (hb : Below w.heap.size w w') :
    Tk W (w'.setCell ⟨W.heap.size, 1 + k * 6 + 5, none⟩ (.slice A x.o.r.l.length c)) s p (M.set k ⟨x.o, A, c⟩) (k + 1) := by
  rw [setCell_eq_setRow w' _ _ _ _ (0, 0) _ (h.row.below hb h.row.lt), stc_put5 p hx h.len]
  exact h.next hx hm ln hb
theorem Tk.done {W w : World} {s : Sm} {p : Value} {M : List Co} (h : Tk W w s p M 8) : AnsT W s (.returned (.agg (stc p M))) (w.setRow (W.heap.size + 1) (stc p M)) :=
  ⟨p, M, rfl, ⟨(h.pin.setRow (by omega) _).mono (by omega), h.room, h.len, fun x hx => by
    obtain ⟨j, hj⟩ := List.getElem?_of_mem hx
    have hl : j < M.length := by
      rcases Nat.lt_or_ge j M.length with h1 | h1
      · exact h1
      · rw [List.getElem?_eq_none h1] at hj; cases hj
    have hn := h.new j x (by rw [h.len] at hl; exact hl) hj
    exact ⟨(hn.1.setRow (by omega) _).mono (by omega), hn.2⟩, h.is⟩, below_setRow h.bel (by omega) _⟩
theorem Tk.form {W w : World} {s : Sm} {p : Value} {M : List Co} {k : Nat} (h : Tk W w s p M k) : p.oneCell' = true := by
  obtain ⟨A, c, e, _⟩ := h.pin.pin
  rw [e]; rfl
set_option maxHeartbeats 8000000 in
theorem sapart_any (p : Value) (L : List Co) (s : Sm) (w : World) (h : IsS w p L s) :
    Calls Try.prog 36 #[.agg (stc p L)] w (AnsT w s) := by
  obtain ⟨A, c, rfl, hA, hc, hcc, hl⟩ := h.pin
  have ln := h.room
  have HN := hide (T0.new w (.slice A s.l.length c) L)
  have HS := hide h
  have HL := hide hl
  clear h hl
  go_enter Try.func36, Try.ntmps36
  go_upto_region 1 with (fail)
  rw [zero_state]
  generalize (w.alloc (.cells (stc (.slice A s.l.length c) L) 30)).alloc (.cells (stc (.slice none 0 0) zeroL) 30) = w2 at HN ⊢
  have c0 := HN.out.row.pairs49
  have HC := hide (concat1 (t' := 22) rfl (HL.out.below HN.out.bel) hA ln)
  have g0 := HN.out.row.lt
  go_upto_region 2 with (first | (go_at_call 72; (with_reducible refine HC.out.mono ?_); rintro e w3 ⟨v3, rfl, ho3, hb3⟩; obtain ⟨A3, c3, rfl, _, _, _, _⟩ := ho3.pin; have S1 := HN.out.row.below hb3 g0; have z0 := S1.pairs49; have y0 := S1.free 0))
  have HK := hide (HN.out.pairsC HS.out ho3 hb3)
  clear ho3 hb3 c0 HC
  generalize w3.setCell ⟨w.heap.size, 0, none⟩ (.slice A3 s.l.length c3) = w4 at HK ⊢
  generalize Value.slice A3 s.l.length c3 = p at HK ⊢
  go_wp2
  go_loopw [9] (fun i wr => ∃ (k : Nat) (M : List Co), k ≤ 8 ∧ i = .int .i64 k ∧ Hid (Tk w wr s p M k)) (fun i _ => 8 - (intOf i).toNat)
  case atStart => exact ⟨0, _, by omega, rfl, HK⟩
  case round =>
    obtain ⟨k, M, hk, rfl, HM⟩ := hrel
    by_cases hlt : k < 8
    · obtain ⟨x, hx, hp, hn⟩ := HM.out.at_ hlt
      obtain ⟨Ax, cx, ex, hxA, hxc, hxcc, hxl⟩ := hp
      have d5 := (HM.out.row.owner49 hx).2.2.2.2.2
      rw [ex] at d5
      have hlt' : (k : Int) < 8 := by omega
      have HX := hide hx
      have HA := hide (concat1 (t' := 22) rfl hxl hxA hn)
      have H8 := hide HM.out.len
      have HE := hide ex
      have g0 := HM.out.row.lt
      clear hx hxl ex hxA hxc hxcc
      go_wp2_with (first | (go_at_call 72; (with_reducible refine HA.out.mono ?_); rintro e w4 ⟨p4, rfl, ho4, hb4⟩; obtain ⟨A4, c4, rfl, _, _, _, _⟩ := ho4.pin; have S := HM.out.row.below hb4 g0; have z5 := (S.owner49 HX.out).2.2.2.2.2; have y5 := S.free (1 + k * 6 + 5)))
      go_roundw
      case rel => exact ⟨k + 1, _, by omega, by go_num, hide (HM.out.nextC HX.out ho4 hn hb4)⟩
      case measure => simp [intOf]; omega
    · obtain rfl : k = 8 := by omega
      have R0 := hide HM.out.row
      have R2 := hide HM.out.res
      have H8 := hide HM.out.len
      have H1 := hide HM.out.form
      go_wp2_with (first | ((with_reducible refine wpList_load49 ?_ R0.out H8.out ?_); rfl) | ((with_reducible refine wpList_store49 ?_ ?_ H1.out R2.out (L := zeroL) rfl H8.out ?_); rfl; rfl))
      exact bodyPost_ret (results49 Try.results36 rfl (R2.out.setRow _) H8.out) rfl HM.out.done
set_option maxHeartbeats 8000000 in
theorem twin_any (p : Value) (L : List Co) (s : Sm) (w : World) (h : IsS w p L s) :
    Calls Try.prog 15 #[.agg (stc p L)] w (AnsT w s) := by
  obtain ⟨A, c, rfl, hA, hc, hcc, hl⟩ := h.pin
  have ln := h.room
  have HN := hide (T0.new w (.slice A s.l.length c) L)
  have HS := hide h
  have HL := hide hl
  clear h hl
  go_enter Try.func15, Try.ntmps15
  go_upto_region 1 with (fail)
  rw [zero_state]
  generalize (w.alloc (.cells (stc (.slice A s.l.length c) L) 30)).alloc (.cells (stc (.slice none 0 0) zeroL) 30) = w2 at HN ⊢
  have c0 := HN.out.row.pairs49
  have OW := hide (Mine.made (base := w2.heap.size) (w := w2) (Nat.le_refl _))
  have HL1 := hide ((HL.out.below HN.out.bel).alloc (.cells #[] 47))
  have HB1 := hide (kept_alloc (kept_refl w2) (.cells #[] 47))
  have hsz := HB1.out.size
  have g0 := HN.out.row.lt
  go_upto_region 2 with (first | (at_builtin; refine wpList_append_mine rfl (.tmp 4) (.tmp 6) rfl rfl OW.out A s.l.length c rfl rfl hA HL1.out (by simp; omega) hsz ?_; intro v3 w3 ho3 hb3; have ho3 : Mine w2.heap.size w3 v3 s.l := ho3; have hb3 : Below w2.heap.size w2 w3 := HB1.out.grown hb3 hsz (fun k hk => OW.out.lt k hk); obtain ⟨A3, c3, rfl, _, _, _, _⟩ := ho3.pin; have S1 := HN.out.row.below hb3 g0; have z0 := S1.pairs49; have y0 := S1.free 0))
  have HK := hide (HN.out.pairsC HS.out ho3 hb3)
  clear ho3 hb3 c0 OW HL1 HB1 hsz
  generalize w3.setCell ⟨w.heap.size, 0, none⟩ (.slice A3 s.l.length c3) = w4 at HK ⊢
  generalize Value.slice A3 s.l.length c3 = p at HK ⊢
  go_wp2
  go_loopw [3] (fun i wr => ∃ (k : Nat) (M : List Co), k ≤ 8 ∧ i = .int .i64 k ∧ Hid (Tk w wr s p M k)) (fun i _ => 8 - (intOf i).toNat)
  case atStart => exact ⟨0, _, by omega, rfl, HK⟩
  case round =>
    obtain ⟨k, M, hk, rfl, HM⟩ := hrel
    by_cases hlt : k < 8
    · obtain ⟨x, hx, hp, hn⟩ := HM.out.at_ hlt
      obtain ⟨d0, d1, d2, d3, d4, d5⟩ := HM.out.row.owner49 hx
      have hlt' : (k : Int) < 8 := by omega
      have HX := hide hx
      have HA := hide (copy_any x.o.r _ wr hp hn)
      have H8 := hide HM.out.len
      have g0 := HM.out.row.lt
      clear hx hp d0
      unfold Co.p at d5 HA
      go_wp2_with (first | (go_at_call 37; (with_reducible refine HA.out.mono ?_); rintro e w4 ⟨p4, rfl, ho4, hb4⟩; obtain ⟨A4, c4, rfl, _, _, _, _⟩ := ho4.pin; have S := hide (HM.out.row.below hb4 g0)) | ((with_reducible refine wpList_storeR49 (k := k) (r := x.o.r) (A := A4) (c := c4) ?_ ?_ S.out H8.out HX.out ?_); rfl; rfl))
      go_roundw
      case rel => exact ⟨k + 1, _, by omega, by go_num, hide (HM.out.next HX.out ho4 hn hb4)⟩
      case measure => simp [intOf]; omega
    · obtain rfl : k = 8 := by omega
      have R0 := hide HM.out.row
      have R2 := hide HM.out.res
      have H8 := hide HM.out.len
      have H1 := hide HM.out.form
      go_wp2_with (first | ((with_reducible refine wpList_load49 ?_ R0.out H8.out ?_); rfl) | ((with_reducible refine wpList_store49 ?_ ?_ H1.out R2.out (L := zeroL) rfl H8.out ?_); rfl; rfl))
      exact bodyPost_ret (results49 Try.results15 rfl (R2.out.setRow _) H8.out) rfl HM.out.done
end Go.Proofs.Ytahfpncfkcfogaa
/- What a call that does a command has in memory; what it answers. No condition: nothing here speaks of a function. -/
namespace Go.Proofs.Ytahfpncfkcfogaa
set_option maxRecDepth 100000
open Go.RowKit
def Off (v : Value) (g : Nat) : Prop := v.ownBlock ≠ some g
theorem Mine.offOld {b : Nat} {w : World} {v : Value} {l : List Pr} (h : Mine b w v l) {g : Nat} (hg : w.heap.size ≤ g) : Off v g := fun e => by have := (h.blk g e).2; omega
theorem Mine.offNew {b : Nat} {w : World} {v : Value} {l : List Pr} (h : Mine b w v l) {g : Nat} (hg : g < b) : Off v g := fun e => by have := (h.blk g e).1; omega
theorem Off.nil_ (g : Nat) : Off (.slice none 0 0) g := fun e => by cases e
theorem Mine.grownOff {b : Nat} {w w' : World} {v : Value} {l : List Pr} {g : Nat} (h : Mine b w v l) (hg : w.grownBy w' (some g)) (ho : Off v g) : Mine b w' v l := by
  unfold Mine at h ⊢
  exact h.kept hg (.inr ho)
theorem grown_setCell (w : World) (g i : Nat) (u : Value) : w.grownBy (w.setCell ⟨g, i, none⟩ u) (some g) := ⟨rfl, rfl, rfl, by simp [World.setCell], fun k _ hk => Below.heap_setCell w ⟨g, i, none⟩ u k (fun e => hk (by rw [e]))⟩
theorem Mine.putOff {b : Nat} {w : World} {v : Value} {l : List Pr} {g : Nat} (h : Mine b w v l) (ho : Off v g) (i : Nat) (u : Value) : Mine b (w.setCell ⟨g, i, none⟩ u) v l := h.grownOff (grown_setCell w g i u) ho
theorem Mine.putOff5 {b : Nat} {w : World} {v : Value} {l : List Pr} {g : Nat} (h : Mine b w v l) (ho : Off v g) (u0 u1 u2 u3 u4 : Value) : Mine b (((((w.setCell ⟨g, 0, none⟩ u0).setCell ⟨g, 1, none⟩ u1).setCell ⟨g, 2, none⟩ u2).setCell ⟨g, 3, none⟩ u3).setCell ⟨g, 4, none⟩ u4) v l :=
  ((((h.putOff ho 0 _).putOff ho 1 _).putOff ho 2 _).putOff ho 3 _).putOff ho 4 _
theorem below_put5 {W w : World} (h : Below W.heap.size W w) {g : Nat} (hg : W.heap.size ≤ g) (u0 u1 u2 u3 u4 : Value) : Below W.heap.size W (((((w.setCell ⟨g, 0, none⟩ u0).setCell ⟨g, 1, none⟩ u1).setCell ⟨g, 2, none⟩ u2).setCell ⟨g, 3, none⟩ u3).setCell ⟨g, 4, none⟩ u4) :=
  ((((h.setCell (p := ⟨g, 0, none⟩) hg _).setCell (p := ⟨g, 1, none⟩) hg _).setCell (p := ⟨g, 2, none⟩) hg _).setCell (p := ⟨g, 3, none⟩) hg _).setCell (p := ⟨g, 4, none⟩) hg _
/-- What is answered: pairs, and a reply, apart from each other. -/
def AnsA (b : Nat) (w : World) (x : List Pr × Re) (e : Ending) (w' : World) : Prop :=
  ∃ v q, e = .returned (.tuple #[v, .agg #[.int .i64 x.2.why, .bool x.2.fnd, .string x.2.val, .int .i64 x.2.ver, q]]) ∧ Mine b w' v x.1 ∧ Mine b w' q x.2.l ∧ (∀ k, q.ownBlock = some k → v.ownBlock ≠ some k) ∧ Below w.heap.size w w'
def reV (r : Re) (q : Value) : Array Value := #[.int .i64 r.why, .bool r.fnd, .string r.val, .int .i64 r.ver, q]
def prV3 (p : Pr) : Array Value := #[.string p.k, .string p.v, .int .i64 p.n]
/-- The blocks of a call that does a command: the command's, the answer's reply. -/
structure R0 (W w : World) (x : Cm) : Prop where
  rc : Row w W.heap.size 35 (rowC x)
  rr : Row w (W.heap.size + 1) 25 (reV zeroR (.slice none 0 0))
  bel : Below W.heap.size W w
theorem R0.new (w : World) (x : Cm) : R0 w ((w.alloc (.cells (rowC x) 35)).alloc (.cells (reV zeroR (.slice none 0 0)) 25)) x := by
  have q0 := Row.new w 35 (rowC x)
  have b0 := kept_alloc (kept_refl w) (.cells (rowC x) 35)
  have s0 : (w.alloc (.cells (rowC x) 35)).heap.size = w.heap.size + 1 := by simp
  generalize w.alloc (.cells (rowC x) 35) = w1 at *
  have q1 := Row.new w1 25 (reV zeroR (.slice none 0 0))
  rw [s0] at q1
  exact ⟨q0.alloc _, q1, kept_alloc b0 _⟩
theorem R0.below {W w w' : World} {x : Cm} (h : R0 W w x) (hb : Below w.heap.size w w') : R0 W w' x := ⟨h.rc.below hb h.rc.lt, h.rr.below hb h.rr.lt, h.bel.trans (hb.mono h.bel.size)⟩
theorem R0.alloc {W w : World} {x : Cm} (h : R0 W w x) (o : Obj) : R0 W (w.alloc o) x := h.below (kept_alloc (kept_refl w) o)
theorem R0.drewN {W w : World} {x : Cm} (h : R0 W w x) (n : Nat) : R0 W (w.drewN n) x := h.below (kept_drewN (kept_refl w) n)
/-- .. and the pair that was found. -/
structure R1 (W w : World) (x : Cm) (p : Pr) (g : Nat) : Prop where
  r0 : R0 W w x
  rp : Row w g 47 (prV3 p)
  far : W.heap.size + 1 < g
theorem R0.pair {W w : World} {x : Cm} (h : R0 W w x) (p : Pr) : R1 W (w.alloc (.cells (prV3 p) 47)) x p w.heap.size := ⟨h.alloc _, Row.new w _ _, h.rr.lt⟩
theorem R1.below {W w w' : World} {x : Cm} {p : Pr} {g : Nat} (h : R1 W w x p g) (hb : Below w.heap.size w w') : R1 W w' x p g := ⟨h.r0.below hb, h.rp.below hb h.rp.lt, h.far⟩
theorem R1.drewN {W w : World} {x : Cm} {p : Pr} {g : Nat} (h : R1 W w x p g) (n : Nat) : R1 W (w.drewN n) x p g := h.below (kept_drewN (kept_refl w) n)
/-- All cells, and which may be written. -/
theorem R1.all {W w : World} {x : Cm} {p : Pr} {g : Nat} (h : R1 W w x p g) : Cells7 w W.heap.size x ∧ (w.cell? ⟨g, 0, none⟩ = some (.string p.k) ∧ w.cell? ⟨g, 1, none⟩ = some (.string p.v) ∧ w.cell? ⟨g, 2, none⟩ = some (.int .i64 p.n)) ∧
    (w.cell? ⟨W.heap.size + 1, 0, none⟩ = some (.int .i64 0) ∧ w.cell? ⟨W.heap.size + 1, 1, none⟩ = some (.bool false) ∧ w.cell? ⟨W.heap.size + 1, 2, none⟩ = some (.string { data := #[] }) ∧ w.cell? ⟨W.heap.size + 1, 3, none⟩ = some (.int .i64 0) ∧ w.cell? ⟨W.heap.size + 1, 4, none⟩ = some (.slice none 0 0)) ∧
    w.frozen? ⟨W.heap.size + 1, 0, none⟩ = false ∧ w.frozen? ⟨W.heap.size + 1, 1, none⟩ = false ∧ w.frozen? ⟨W.heap.size + 1, 2, none⟩ = false ∧ w.frozen? ⟨W.heap.size + 1, 3, none⟩ = false ∧ w.frozen? ⟨W.heap.size + 1, 4, none⟩ = false :=
  ⟨(seven_of h.r0.rc).cells, h.rp.three, h.r0.rr.five, h.r0.rr.free 0, h.r0.rr.free 1, h.r0.rr.free 2, h.r0.rr.free 3, h.r0.rr.free 4⟩
/-- What was written into the answer's reply, answered beside pairs. -/
theorem R1.done {W w : World} {x : Cm} {p : Pr} {g b : Nat} (h : R1 W w x p g) {v q : Value} {y : List Pr × Re} (hv : Mine b w v y.1) (hq : Mine b w q y.2.l) (ov : Off v (W.heap.size + 1)) (oq : Off q (W.heap.size + 1)) (ap : ∀ k, q.ownBlock = some k → v.ownBlock ≠ some k) :
    AnsA b W y (.returned (.tuple #[v, .agg #[.int .i64 y.2.why, .bool y.2.fnd, .string y.2.val, .int .i64 y.2.ver, q]])) (((((w.setCell ⟨W.heap.size + 1, 0, none⟩ (.int .i64 y.2.why)).setCell ⟨W.heap.size + 1, 1, none⟩ (.bool y.2.fnd)).setCell ⟨W.heap.size + 1, 2, none⟩ (.string y.2.val)).setCell ⟨W.heap.size + 1, 3, none⟩ (.int .i64 y.2.ver)).setCell ⟨W.heap.size + 1, 4, none⟩ q) :=
  ⟨v, q, rfl, hv.putOff5 ov _ _ _ _ _, hq.putOff5 oq _ _ _ _ _, ap, below_put5 h.r0.bel (by omega) _ _ _ _ _⟩
theorem ap_nil {v : Value} : ∀ k, (Value.slice none 0 0).ownBlock = some k → v.ownBlock ≠ some k := fun k e => by cases e
theorem run_1 (l : List Pr) (c q : Int) (key en old val : ByteArray) : runP l ⟨1, c, q, key, en, old, val⟩ = (l, ⟨0, isB l key, (getP l key).v, (getP l key).n, []⟩) := by unfold runP; dsimp only; rw [if_pos rfl]
theorem run_2 (l : List Pr) (c q : Int) (key en old val : ByteArray) : runP l ⟨2, c, q, key, en, old, val⟩ = if fullB l key = true then (l, errR 7) else (putP l key val, ⟨0, isB l key, nilT, IntKind.i64.wrap ((getP l key).n + 1), []⟩) := by unfold runP; dsimp only; rw [if_neg (by decide), if_pos rfl]
theorem run_3 (l : List Pr) (c q : Int) (key en old val : ByteArray) : runP l ⟨3, c, q, key, en, old, val⟩ = (delP l key, ⟨0, isB l key, nilT, (getP l key).n, []⟩) := by unfold runP; dsimp only; rw [if_neg (by decide), if_neg (by decide), if_pos rfl]
theorem run_4 (l : List Pr) (c q : Int) (key en old val : ByteArray) : runP l ⟨4, c, q, key, en, old, val⟩ = if (isB l key && eqB (getP l key).v old) = true then (putP l key val, ⟨0, true, (getP l key).v, IntKind.i64.wrap ((getP l key).n + 1), []⟩) else (l, ⟨0, false, (getP l key).v, (getP l key).n, []⟩) := by unfold runP; dsimp only; rw [if_neg (by decide), if_neg (by decide), if_neg (by decide), if_pos rfl]
theorem run_5 (l : List Pr) (c q : Int) (key en old val : ByteArray) : runP l ⟨5, c, q, key, en, old, val⟩ = (l, ⟨0, moreB l key en, nilT, 0, rngP l key en⟩) := by unfold runP; dsimp only; rw [if_neg (by decide), if_neg (by decide), if_neg (by decide), if_neg (by decide)]
theorem put_full {l : List Pr} {key value : ByteArray} (h : fullB l key = true) : putL l key value = [] ∧ putE l key = 7 := ⟨if_pos h, if_pos h⟩
theorem put_fits {l : List Pr} {key value : ByteArray} (h : fullB l key = false) : putL l key value = putP l key value ∧ putE l key = 0 := ⟨if_neg (by rw [h]; simp), if_neg (by rw [h]; simp)⟩
end Go.Proofs.Ytahfpncfkcfogaa
/- What the program's call that does a command has in memory. No condition: nothing here speaks of a function. -/
namespace Go.Proofs.Ytahfpncfkcfogaa
set_option maxRecDepth 100000
open Go.RowKit
/-- The command's block, the answer's, the reply's, the pair's. -/
structure A1 (W w : World) (x : Cm) (p : Pr) (y : Re) (q : Value) (gr g : Nat) : Prop where
  r0 : R0 W w x
  rt : Row w gr 25 (reV y q)
  rp : Row w g 47 (prV3 p)
  f1 : W.heap.size + 1 < gr
  f2 : gr < g
section
variable {W w w' : World} {x : Cm} {p : Pr} {y : Re} {q : Value} {gr g : Nat}
theorem A1.below (h : A1 W w x p y q gr g) (hb : Below w.heap.size w w') : A1 W w' x p y q gr g := ⟨h.r0.below hb, h.rt.below hb h.rt.lt, h.rp.below hb h.rp.lt, h.f1, h.f2⟩
theorem A1.drewN (h : A1 W w x p y q gr g) (n : Nat) : A1 W (w.drewN n) x p y q gr g := h.below (kept_drewN (kept_refl w) n)
theorem Row.putOff {g i : Nat} {k : Nat} {t : TypeId} {cs : Array Value} (h : Row w g t cs) (hne : g ≠ k) (u : Value) : Row (w.setCell ⟨k, i, none⟩ u) g t cs := h.same (Below.heap_setCell w ⟨k, i, none⟩ u g hne)
/-- A cell of the reply's block is written. -/
theorem A1.put (h : A1 W w x p y q gr g) (i : Nat) (u : Value) {y' : Re} {q' : Value} (e : (reV y q).setIfInBounds i u = reV y' q') : A1 W (w.setCell ⟨gr, i, none⟩ u) x p y' q' gr g := by
  have f1 := h.f1
  have f2 := h.f2
  exact ⟨⟨h.r0.rc.putOff (by omega) u, h.r0.rr.putOff (by omega) u, h.r0.bel.setCell (p := ⟨gr, i, none⟩) (by show W.heap.size ≤ gr; omega) u⟩, by rw [← e]; exact h.rt.put i u, h.rp.putOff (by omega) u, f1, f2⟩
theorem A1.put5 (h : A1 W w x p y q gr g) (y' : Re) (q' : Value) : A1 W (((((w.setCell ⟨gr, 0, none⟩ (.int .i64 y'.why)).setCell ⟨gr, 1, none⟩ (.bool y'.fnd)).setCell ⟨gr, 2, none⟩ (.string y'.val)).setCell ⟨gr, 3, none⟩ (.int .i64 y'.ver)).setCell ⟨gr, 4, none⟩ q') x p y' q' gr g :=
  ((((h.put 0 (.int .i64 y'.why) (y' := { y with why := y'.why }) (q' := q) rfl).put 1 (.bool y'.fnd) (y' := { y with why := y'.why, fnd := y'.fnd }) (q' := q) rfl).put 2 (.string y'.val) (y' := { y with why := y'.why, fnd := y'.fnd, val := y'.val }) (q' := q) rfl).put 3 (.int .i64 y'.ver) (y' := { y with why := y'.why, fnd := y'.fnd, val := y'.val, ver := y'.ver }) (q' := q) rfl).put 4 q' rfl
/-- All cells, and which may be written. -/
theorem A1.all (h : A1 W w x p y q gr g) : Cells7 w W.heap.size x ∧ (w.cell? ⟨g, 0, none⟩ = some (.string p.k) ∧ w.cell? ⟨g, 1, none⟩ = some (.string p.v) ∧ w.cell? ⟨g, 2, none⟩ = some (.int .i64 p.n)) ∧
    ((w.cell? ⟨gr, 0, none⟩ = some (.int .i64 y.why) ∧ w.cell? ⟨gr, 1, none⟩ = some (.bool y.fnd) ∧ w.cell? ⟨gr, 2, none⟩ = some (.string y.val) ∧ w.cell? ⟨gr, 3, none⟩ = some (.int .i64 y.ver) ∧ w.cell? ⟨gr, 4, none⟩ = some q) ∧
      w.frozen? ⟨gr, 0, none⟩ = false ∧ w.frozen? ⟨gr, 1, none⟩ = false ∧ w.frozen? ⟨gr, 2, none⟩ = false ∧ w.frozen? ⟨gr, 3, none⟩ = false ∧ w.frozen? ⟨gr, 4, none⟩ = false) ∧
    (w.cell? ⟨W.heap.size + 1, 0, none⟩ = some (.int .i64 0) ∧ w.cell? ⟨W.heap.size + 1, 1, none⟩ = some (.bool false) ∧ w.cell? ⟨W.heap.size + 1, 2, none⟩ = some (.string { data := #[] }) ∧ w.cell? ⟨W.heap.size + 1, 3, none⟩ = some (.int .i64 0) ∧ w.cell? ⟨W.heap.size + 1, 4, none⟩ = some (.slice none 0 0)) ∧
    w.frozen? ⟨W.heap.size + 1, 0, none⟩ = false ∧ w.frozen? ⟨W.heap.size + 1, 1, none⟩ = false ∧ w.frozen? ⟨W.heap.size + 1, 2, none⟩ = false ∧ w.frozen? ⟨W.heap.size + 1, 3, none⟩ = false ∧ w.frozen? ⟨W.heap.size + 1, 4, none⟩ = false :=
  ⟨(seven_of h.r0.rc).cells, h.rp.three, ⟨h.rt.five, h.rt.free 0, h.rt.free 1, h.rt.free 2, h.rt.free 3, h.rt.free 4⟩, h.r0.rr.five, h.r0.rr.free 0, h.r0.rr.free 1, h.r0.rr.free 2, h.r0.rr.free 3, h.r0.rr.free 4⟩
end
/-- .. with the pairs v that are l, both apart from those blocks. -/
structure A2 (b : Nat) (W w : World) (x : Cm) (p : Pr) (y : Re) (q : Value) (gr g : Nat) (v : Value) (l : List Pr) : Prop where
  a : A1 W w x p y q gr g
  hv : Mine b w v l
  hq : Mine b w q y.l
  ov : Off v (W.heap.size + 1)
  oq : Off q (W.heap.size + 1)
  og : Off v gr
  ap : ∀ k, q.ownBlock = some k → v.ownBlock ≠ some k
section
variable {b : Nat} {W w w' : World} {x : Cm} {p : Pr} {y : Re} {q : Value} {gr g : Nat} {v : Value} {l : List Pr}
theorem A2.below (h : A2 b W w x p y q gr g v l) (hb : Below w.heap.size w w') : A2 b W w' x p y q gr g v l := ⟨h.a.below hb, h.hv.below hb, h.hq.below hb, h.ov, h.oq, h.og, h.ap⟩
theorem A2.drewN (h : A2 b W w x p y q gr g v l) (n : Nat) : A2 b W (w.drewN n) x p y q gr g v l := h.below (kept_drewN (kept_refl w) n)
theorem A2.put5 (h : A2 b W w x p y q gr g v l) (y' : Re) (hl : y'.l = []) : A2 b W (((((w.setCell ⟨gr, 0, none⟩ (.int .i64 y'.why)).setCell ⟨gr, 1, none⟩ (.bool y'.fnd)).setCell ⟨gr, 2, none⟩ (.string y'.val)).setCell ⟨gr, 3, none⟩ (.int .i64 y'.ver)).setCell ⟨gr, 4, none⟩ (.slice none 0 0)) x p y' (.slice none 0 0) gr g v l :=
  ⟨h.a.put5 y' _, h.hv.putOff5 h.og _ _ _ _ _, by rw [hl]; exact Mine.nil_ _ _, h.ov, Off.nil_ _, h.og, ap_nil⟩
/-- Other pairs, made since. -/
theorem A2.new (h : A2 b W w x p y (.slice none 0 0) gr g v l) {v' : Value} {l' : List Pr} (hm : Mine w.heap.size w' v' l') (hbw : b ≤ w.heap.size) (hb : Below w.heap.size w w') : A2 b W w' x p y (.slice none 0 0) gr g v' l' :=
  have f := h.a.f1
  have g1 := h.a.rt.lt
  ⟨h.a.below hb, hm.mono hbw, h.hq.below hb, hm.offNew (by omega), Off.nil_ _, hm.offNew g1, ap_nil⟩
theorem A2.errno (h : A2 b W w x p zeroR (.slice none 0 0) gr g v l) (n : Int) : A2 b W (w.setCell ⟨gr, 0, none⟩ (.int .i64 n)) x p (errR n) (.slice none 0 0) gr g v l :=
  ⟨h.a.put 0 _ rfl, h.hv.putOff h.og 0 _, Mine.nil_ _ _, h.ov, Off.nil_ _, h.og, ap_nil⟩
theorem A2.swap (h : A2 b W w x p ⟨0, false, p.v, p.n, []⟩ (.slice none 0 0) gr g v l) (n : Int) : A2 b W ((w.setCell ⟨gr, 1, none⟩ (.bool true)).setCell ⟨gr, 3, none⟩ (.int .i64 n)) x p ⟨0, true, p.v, n, []⟩ (.slice none 0 0) gr g v l :=
  ⟨(h.a.put 1 (.bool true) (y' := ⟨0, true, p.v, p.n, []⟩) rfl).put 3 _ rfl, (h.hv.putOff h.og 1 _).putOff h.og 3 _, Mine.nil_ _ _, h.ov, Off.nil_ _, h.og, ap_nil⟩
theorem A2.range (h : A2 b W w x p zeroR (.slice none 0 0) gr g v l) {q' : Value} {m : List Pr} (hm : Mine w.heap.size w' q' m) (hbw : b ≤ w.heap.size) (hb : Below w.heap.size w w') (f : Bool) : A2 b W ((w'.setCell ⟨gr, 4, none⟩ q').setCell ⟨gr, 1, none⟩ (.bool f)) x p ⟨0, f, nilT, 0, m⟩ q' gr g v l :=
  have f1 := h.a.f1
  have g1 := h.a.rt.lt
  ⟨((h.a.below hb).put 4 q' (y' := ⟨0, false, nilT, 0, m⟩) (q' := q') rfl).put 1 (.bool f) rfl, ((h.hv.below hb).putOff h.og 4 _).putOff h.og 1 _, ((hm.mono hbw).putOff (hm.offNew g1) 4 _).putOff (hm.offNew g1) 1 _, h.ov, hm.offNew (by omega), h.og, fun k e1 e2 => by have := (hm.blk k e1).1; have := (h.hv.blk k e2).2; omega⟩
theorem A2.done (h : A2 b W w x p y q gr g v l) : AnsA b W (l, y) (.returned (.tuple #[v, .agg #[.int .i64 y.why, .bool y.fnd, .string y.val, .int .i64 y.ver, q]])) (((((w.setCell ⟨W.heap.size + 1, 0, none⟩ (.int .i64 y.why)).setCell ⟨W.heap.size + 1, 1, none⟩ (.bool y.fnd)).setCell ⟨W.heap.size + 1, 2, none⟩ (.string y.val)).setCell ⟨W.heap.size + 1, 3, none⟩ (.int .i64 y.ver)).setCell ⟨W.heap.size + 1, 4, none⟩ q) :=
  ⟨v, q, rfl, h.hv.putOff5 h.ov _ _ _ _ _, h.hq.putOff5 h.oq _ _ _ _ _, h.ap, below_put5 h.a.r0.bel (by omega) _ _ _ _ _⟩
end
/-- The blocks, as they are made. -/
theorem R0.a2 {W w w' w'' : World} {x : Cm} {v : Value} {l : List Pr} {b : Nat} (h : R0 W w x) (hm : Mine w.heap.size w' v l) (hb : Below w.heap.size w w') (hbw : b ≤ w.heap.size) (p : Pr) (hb2 : Below (w'.alloc (.cells (reV zeroR (.slice none 0 0)) 25)).heap.size (w'.alloc (.cells (reV zeroR (.slice none 0 0)) 25)) w'') :
    A2 b W (w''.alloc (.cells (prV3 p) 47)) x p zeroR (.slice none 0 0) w'.heap.size w''.heap.size v l := by
  have g0 := h.rr.lt
  have k1 := kept_alloc (kept_refl w') (.cells (reV zeroR (.slice none 0 0)) 25)
  have rt := Row.new w' 25 (reV zeroR (.slice none 0 0))
  have hlt := rt.lt
  generalize w'.alloc (.cells (reV zeroR (.slice none 0 0)) 25) = w1 at *
  have k2 := kept_trans k1 hb2
  have k3 := kept_alloc k2 (.cells (prV3 p) 47)
  have s2 := hb2.size
  have sb := hb.size
  exact ⟨⟨h.below (kept_trans hb k3), rt.below (kept_alloc hb2 _) hlt, Row.new w'' _ _, by omega, by omega⟩, (hm.mono hbw).below k3, Mine.nil_ _ _, hm.offNew g0, Off.nil_ _, hm.offOld (Nat.le_refl _), ap_nil⟩
end Go.Proofs.Ytahfpncfkcfogaa
