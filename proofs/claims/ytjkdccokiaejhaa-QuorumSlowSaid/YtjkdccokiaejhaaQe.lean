/- What bytes are taken as a cell, a letter are its bytes; no beginning of a letter's bytes is one; two letters' bytes, in plain words. No condition: nothing here speaks of a program. -/
import Derived.Test.YtjkdccokiaejhaaQd
import Derived.Test.YtjkdccokiaejhaaQb
import Derived.StillTailTactics
namespace Go.Proofs.Ytjkdccokiaejhaa
open Go.RowKit
/-! ### An error is never nought -/
theorem nz_chk {α : Type} {b : α → Bool} {x : Rdm α} (h : Nz x) : Nz (dChk b x) := h.bnd fun a j => by
  split
  · exact Nz.ok _
  · exact fun e h => by cases h; decide
theorem nz_bal (zs : List Int) (i : Nat) : Nz (dBal zs i) := (nz_num _ _).bnd fun _ _ => (nz_num _ _).bnd fun _ _ => Nz.ok _
theorem nz_nums (zs : List Int) : ∀ (n i : Nat), Nz (dNums zs n i)
  | 0, _ => Nz.ok _
  | n + 1, _ => (nz_num _ _).bnd fun _ j => (nz_nums zs n j).bnd fun _ _ => Nz.ok _
theorem nz_cm0 (zs : List Int) (i : Nat) : Nz (dCm0 zs i) := (nz_num _ _).bnd fun k j => by
  split
  · exact Nz.ok _
  · refine (nz_num _ _).bnd fun _ _ => (nz_num _ _).bnd fun _ _ => (nz_txt _ _ _).bnd fun _ _ => ?_
    split
    · exact (nz_txt _ _ _).bnd fun _ _ => Nz.ok _
    · split
      · exact (nz_txt _ _ _).bnd fun _ _ => (nz_txt _ _ _).bnd fun _ _ => Nz.ok _
      · split
        · exact (nz_txt _ _ _).bnd fun _ _ => Nz.ok _
        · exact Nz.ok _
theorem nz_cm (zs : List Int) (i : Nat) : Nz (dCm zs i) := nz_chk (nz_cm0 _ _)
theorem nz_at (zs : List Int) (i : Nat) : Nz (dAt zs i) := nz_chk (nz_nums _ _ _)
theorem nz_cl (zs : List Int) (i : Nat) : Nz (dCl zs i) := nz_chk ((nz_num _ _).bnd fun st j => (nz_bal _ _).bnd fun _ _ => by
  split
  · exact Nz.ok _
  · exact (nz_bal _ _).bnd fun _ _ => (nz_cm _ _).bnd fun _ _ => (nz_at _ _).bnd fun _ _ => (nz_flg _ _).bnd fun _ _ => Nz.ok _)
theorem nz_opt {α : Type} {b : Bool} {z : α} {x : Rdm α} {i : Nat} (h : Nz x) : Nz (dOpt b z x i) := by
  unfold dOpt
  cases b
  · exact Nz.ok _
  · exact h
theorem nz_kind (zs : List Int) (i : Nat) : Nz (dKind zs i) := (nz_num _ _).bnd fun _ _ => (nz_num _ _).bnd fun _ _ => (nz_num _ _).bnd fun _ _ => by
  split
  · exact Nz.ok _
  · exact fun e h => by cases h; decide
theorem nz_lt0 (zs : List Int) (i : Nat) : Nz (dLt0 zs i) := (nz_kind _ _).bnd fun _ _ => (nz_opt (nz_bal _ _)).bnd fun _ _ => (nz_opt (nz_bal _ _)).bnd fun _ _ => (nz_opt (nz_cm _ _)).bnd fun _ _ =>
  (nz_opt (nz_at _ _)).bnd fun _ _ => (nz_opt (nz_cl _ _)).bnd fun _ _ => (nz_opt (nz_nums _ _ _)).bnd fun _ _ => (nz_opt (nz_txt _ _ _)).bnd fun _ _ => Nz.ok _
/-! ### Back -/
theorem chk_back {α : Type} {b : α → Bool} {x : Rdm α} {a : α} {j : Nat} (h : dChk b x = .ok (a, j)) : x = .ok (a, j) ∧ b a = true := by
  unfold dChk at h
  obtain ⟨a', j', e, h⟩ := bnd_ok h
  split at h
  · rename_i hb
    cases h
    exact ⟨e, hb⟩
  · cases h
section
variable {zs : List Int} {i j : Nat}
theorem bal_back (hz : Octets zs) {b : Int × Int} (h : dBal zs i = .ok (b, j)) : zs.drop i = encB b ++ zs.drop j := by
  unfold dBal at h
  obtain ⟨e, j1, e1, h⟩ := bnd_ok h
  obtain ⟨r, j2, e2, h⟩ := bnd_ok h
  cases h
  unfold encB
  rw [(mnum_back hz e1).1, (mnum_back hz e2).1, List.append_assoc]
theorem nums_back (hz : Octets zs) : ∀ (n : Nat) {i j : Nat} {l : List Int}, dNums zs n i = .ok (l, j) → zs.drop i = encN l ++ zs.drop j ∧ l.length = n
  | 0, i, j, l, h => by cases h; exact ⟨rfl, rfl⟩
  | n + 1, i, j, l, h => by
    unfold dNums at h
    obtain ⟨x, j1, e1, h⟩ := bnd_ok h
    obtain ⟨r, j2, e2, h⟩ := bnd_ok h
    cases h
    obtain ⟨t2, l2⟩ := nums_back hz n e2
    exact ⟨by rw [(mnum_back hz e1).1, t2, encN_cons, List.append_assoc], by rw [List.length_cons, l2]⟩
theorem cm0_back (hz : Octets zs) {x : Cm} (h : dCm0 zs i = .ok (x, j)) : zs.drop i = bytesC x ++ zs.drop j := by
  unfold dCm0 at h
  obtain ⟨k, j1, e1, h⟩ := bnd_ok h
  have t1 := (mnum_back hz e1).1
  split at h
  · rename_i h0
    cases h
    subst h0
    exact t1
  · rename_i h0
    obtain ⟨c, j2, e2, h⟩ := bnd_ok h
    obtain ⟨q, j3, e3, h⟩ := bnd_ok h
    obtain ⟨a, j4, e4, h⟩ := bnd_ok h
    have t2 := (mnum_back hz e2).1
    have t3 := (mnum_back hz e3).1
    have t4 := mtxt_back hz e4
    split at h
    · rename_i g2
      obtain ⟨v, j5, e5, h⟩ := bnd_ok h
      cases h
      unfold bytesC tailC
      rw [if_neg h0, if_pos g2, t1, t2, t3, t4, mtxt_back hz e5]
      simp only [List.append_assoc]
    · rename_i g2
      split at h
      · rename_i g4
        obtain ⟨o, j5, e5, h⟩ := bnd_ok h
        obtain ⟨v, j6, e6, h⟩ := bnd_ok h
        cases h
        unfold bytesC tailC
        rw [if_neg h0, if_neg g2, if_pos g4, t1, t2, t3, t4, mtxt_back hz e5, mtxt_back hz e6]
        simp only [List.append_assoc]
      · rename_i g4
        split at h
        · rename_i g5
          obtain ⟨b, j5, e5, h⟩ := bnd_ok h
          cases h
          unfold bytesC tailC
          rw [if_neg h0, if_neg g2, if_neg g4, if_pos g5, t1, t2, t3, t4, mtxt_back hz e5]
          simp only [List.append_assoc]
        · rename_i g5
          cases h
          unfold bytesC tailC
          rw [if_neg h0, if_neg g2, if_neg g4, if_neg g5, t1, t2, t3, t4]
          simp only [List.append_assoc, List.nil_append]
theorem cm_back (hz : Octets zs) {x : Cm} (h : dCm zs i = .ok (x, j)) : zs.drop i = packC x ++ zs.drop j ∧ rightC x = true := by
  obtain ⟨h, hr⟩ := chk_back h
  refine ⟨?_, hr⟩
  unfold packC
  rw [if_pos hr]
  exact cm0_back hz h
theorem at_back (hz : Octets zs) {a : List Int} (h : dAt zs i = .ok (a, j)) : zs.drop i = encN a ++ zs.drop j ∧ a.length = 8 := nums_back hz 8 (chk_back h).1
theorem cl_back (hz : Octets zs) {x : Cl} (h : dCl zs i = .ok (x, j)) : zs.drop i = encX x ++ zs.drop j ∧ x.a.length = 8 ∧ rightCl x = true := by
  obtain ⟨h, hr⟩ := chk_back h
  unfold dCl0 at h
  obtain ⟨st, j1, e1, h⟩ := bnd_ok h
  obtain ⟨p, j2, e2, h⟩ := bnd_ok h
  have t1 := (mnum_back hz e1).1
  have t2 := bal_back hz e2
  split at h
  · rename_i h0
    cases h
    refine ⟨?_, rfl, hr⟩
    unfold encX encT
    rw [if_pos h0, t1, t2]
    simp only [List.append_assoc, List.nil_append]
  · rename_i h0
    obtain ⟨v, j3, e3, h⟩ := bnd_ok h
    obtain ⟨c, j4, e4, h⟩ := bnd_ok h
    obtain ⟨a, j5, e5, h⟩ := bnd_ok h
    obtain ⟨s, j6, e6, h⟩ := bnd_ok h
    cases h
    obtain ⟨t5, l5⟩ := at_back hz e5
    refine ⟨?_, l5, hr⟩
    unfold encX encT
    rw [if_neg h0, t1, t2, bal_back hz e3, (cm_back hz e4).1, t5, mflg_back hz e6]
    simp only [List.append_assoc]
theorem opt_back {α : Type} {b : Bool} {z a : α} {x : Rdm α} {e : α → List Int} (hx : x = .ok (a, j) → zs.drop i = e a ++ zs.drop j) (h : dOpt b z x i = .ok (a, j)) : zs.drop i = (if b then e a else []) ++ zs.drop j := by
  unfold dOpt at h
  cases b
  · cases h; rfl
  · exact hx h
theorem opt_zero {α : Type} {b : Bool} {z a : α} {x : Rdm α} {P : α → Prop} (hz : P z) (hx : x = .ok (a, j) → P a) (h : dOpt b z x i = .ok (a, j)) : P a := by
  unfold dOpt at h
  cases b
  · cases h; exact hz
  · exact hx h
theorem lt0_back (hz : Octets zs) {m : Lt} (h : dLt0 zs i = .ok (m, j)) : zs.drop i = encM m ++ zs.drop j ∧ LtWf m := by
  unfold dLt0 at h
  obtain ⟨⟨k, f, t⟩, j1, e1, h⟩ := bnd_ok h
  obtain ⟨i', j2, e2, h⟩ := bnd_ok h
  obtain ⟨b, j3, e3, h⟩ := bnd_ok h
  obtain ⟨c, j4, e4, h⟩ := bnd_ok h
  obtain ⟨a, j5, e5, h⟩ := bnd_ok h
  obtain ⟨x, j6, e6, h⟩ := bnd_ok h
  obtain ⟨d, j7, e7, h⟩ := bnd_ok h
  obtain ⟨z, j8, e8, h⟩ := bnd_ok h
  cases h
  have t1 : zs.drop i = num7 k ++ (num7 f ++ (num7 t ++ zs.drop j1)) := by
    unfold dKind at e1
    obtain ⟨k', i1, g1, e1⟩ := bnd_ok e1
    obtain ⟨f', i2, g2, e1⟩ := bnd_ok e1
    obtain ⟨t', i3, g3, e1⟩ := bnd_ok e1
    split at e1
    · cases e1
      rw [(mnum_back hz g1).1, (mnum_back hz g2).1, (mnum_back hz g3).1]
    · cases e1
  have t2 := opt_back (e := encB) (bal_back hz) e2
  have t3 := opt_back (e := encB) (bal_back hz) e3
  have t4 := opt_back (e := packC) (fun h => (cm_back hz h).1) e4
  have t5 := opt_back (e := encN) (fun h => (at_back hz h).1) e5
  have t6 := opt_back (e := encX) (fun h => (cl_back hz h).1) e6
  have t7 := opt_back (e := encN) (fun h => (nums_back hz 7 h).1) e7
  have t8 := opt_back (e := text7) (mtxt_back hz) e8
  refine ⟨?_, ?_, ?_, ?_⟩
  · unfold encM encR
    dsimp only at t2 t3 t4 t5 t6 t7 t8 ⊢
    rw [t1, t2, t3, t4, t5, t6, t7, t8]
    simp only [List.append_assoc]
  · exact opt_zero (P := fun a => a.length = 8) rfl (fun h => (at_back hz h).2) e5
  · exact opt_zero (P := fun x : Cl => x.a.length = 8) rfl (fun h => (cl_back hz h).2.1) e6
  · exact opt_zero (P := fun d => d.length = 7) rfl (fun h => (nums_back hz 7 h).2) e7
/-- P15.6: what Get takes is Put of it. -/
theorem letter_back (hz : Octets zs) {m : Lt} (h : decLt zs = (m, 0)) : encLt m = zs ∧ LtWf m ∧ rightLt m = true := by
  unfold decLt at h
  split at h
  · rename_i e he
    have := nz_lt0 zs 0 e he
    injection h with _ h
    exact absurd h this
  · rename_i m' j ht
    split at h
    · injection h with _ h
      cases h
    · rename_i hj
      split at h
      · rename_i hr
        injection h with h _
        subst h
        obtain ⟨t, w⟩ := lt0_back hz ht
        refine ⟨?_, w, hr⟩
        have hn : zs.drop j = [] := List.drop_of_length_le (by omega)
        rw [List.drop_zero, hn, List.append_nil] at t
        unfold encLt
        rw [if_pos hr, t]
      · injection h with _ h
        cases h
theorem letter_right (hz : Octets zs) : decLt zs = (zeroLt, (decLt zs).2) ∧ (decLt zs).2 ≠ 0 ∨ ∃ m, decLt zs = (m, 0) ∧ encLt m = zs ∧ LtWf m ∧ rightLt m = true := by
  by_cases h : (decLt zs).2 = 0
  · right
    have h' : decLt zs = ((decLt zs).1, 0) := by rw [← h]
    exact ⟨_, h', letter_back hz h'⟩
  · left
    refine ⟨?_, h⟩
    unfold decLt at h ⊢
    cases hx : dLt0 zs 0 with
    | error e => rfl
    | ok v =>
      obtain ⟨m, j⟩ := v
      rw [hx] at h
      dsimp only at h ⊢
      by_cases h1 : j < zs.length
      · rw [if_pos h1]
      · rw [if_neg h1] at h ⊢
        by_cases h2 : rightLt m = true
        · rw [if_pos h2] at h
          exact absurd rfl h
        · rw [if_neg h2]
end
/-! ### No beginning is one; two letters' bytes -/
theorem encLt_right {m : Lt} (h : rightLt m = true) : encLt m = encM m := by unfold encLt; rw [if_pos h]
/-- If a right letter's bytes begin another one's, both are one. -/
theorem letter_front {a b : Lt} {ys : List Int} (ha : rightLt a = true) (hb : rightLt b = true) (wa : LtWf a) (wb : LtWf b) (h : encLt b = encLt a ++ ys) : a = b ∧ ys = [] := by
  rw [encLt_right ha, encLt_right hb] at h
  have t1 := lt0_there (zs := encM b) (ys := ys) (i := 0) ha wa (by rw [List.drop_zero]; exact h)
  have t2 := lt0_there (zs := encM b) (ys := []) (i := 0) hb wb (by rw [List.drop_zero, List.append_nil])
  rw [t1] at t2
  injection t2 with t2
  injection t2 with e1 e2
  refine ⟨e1, ?_⟩
  rw [h, List.length_append] at e2
  exact List.length_eq_zero_iff.1 (by omega)
theorem encLt_pos {m : Lt} (h : rightLt m = true) : 0 < (encLt m).length := by
  rw [encLt_right h]
  unfold encM
  have := (num7_len m.k).1
  rw [List.length_append]
  omega
/-- P15.6: a beginning is none. -/
theorem letter_cut {m : Lt} (h : rightLt m = true) (w : LtWf m) (ho : Octets (encLt m)) {q : Nat} (hq : q < (encLt m).length) : (decLt ((encLt m).take q)).2 ≠ 0 := fun e => by
  rcases letter_right (octets_take ho q) with h1 | ⟨x, _, h2, wx, rx⟩
  · exact h1.2 e
  · have hs : encLt m = encLt x ++ (encLt m).drop q := by rw [h2, List.take_append_drop]
    have hn := (letter_front rx h wx w hs).2
    have := congrArg List.length hn
    rw [List.length_drop, List.length_nil] at this
    omega
/-- P15.4, P15.6: two right letters have the same bytes just if they are the same; neither's bytes begin the other's. -/
theorem letter_apart {a b : Lt} (ha : rightLt a = true) (hb : rightLt b = true) (wa : LtWf a) (wb : LtWf b) :
    (encLt a).take (min (encLt a).length (encLt b).length) = (encLt b).take (min (encLt a).length (encLt b).length) ↔ a = b := by
  constructor
  · intro h
    rcases Nat.le_total (encLt a).length (encLt b).length with hl | hl
    · rw [Nat.min_eq_left hl, List.take_length] at h
      have hs := List.take_append_drop (encLt a).length (encLt b)
      rw [← h] at hs
      exact (letter_front ha hb wa wb hs.symm).1
    · rw [Nat.min_eq_right hl, List.take_length] at h
      have hs := List.take_append_drop (encLt b).length (encLt a)
      rw [h] at hs
      exact (letter_front hb ha wb wa hs.symm).1.symm
  · rintro rfl
    rfl
end Go.Proofs.Ytjkdccokiaejhaa
/- What a reader gives, held against what bytes are taken as: numbers, texts, flags, commands, attributes, in plain words. No condition: nothing here speaks of a program. -/
namespace Go.Proofs.Ytjkdccokiaejhaa
open Go.RowKit
/-- A read that began with the error e gave v, and stands at i' with the error e'. -/
def Got {α : Type} (d : Rdm α) (e : Int) (v : α) (i' : Nat) (e' : Int) : Prop :=
  (e ≠ 0 → e' = e) ∧ (e = 0 → match d with
    | .ok (a, j) => v = a ∧ i' = j ∧ e' = 0
    | .error x => e' = x ∧ x ≠ 0)
theorem Got.ok {α : Type} (a : α) (j : Nat) (e : Int) : Got (.ok (a, j)) e a j e := ⟨fun _ => rfl, fun h => ⟨rfl, rfl, h⟩⟩
theorem Got.bnd {α β : Type} {d : Rdm α} {f : α → Nat → Rdm β} {e e1 e2 : Int} {v : α} {u : β} {i1 i2 : Nat} (h : Got d e v i1 e1) (k : Got (f v i1) e1 u i2 e2) : Got (bnd d f) e u i2 e2 := by
  refine ⟨fun h0 => ?_, fun h0 => ?_⟩
  · have h1 := h.1 h0
    rw [k.1 (by rw [h1]; exact h0), h1]
  · have h1 := h.2 h0
    unfold Go.Proofs.Ytjkdccokiaejhaa.bnd
    cases d with
    | error x =>
      obtain ⟨h1, h2⟩ := h1
      exact ⟨by rw [k.1 (by rw [h1]; exact h2), h1], h2⟩
    | ok a =>
      obtain ⟨a, j⟩ := a
      obtain ⟨rfl, rfl, h3⟩ := h1
      exact k.2 h3
theorem got_num (zs : List Int) (i : Nat) (e : Int) : Got (dNum zs i) e (rNumV zs i e) (rNumA zs i e) (rNumE zs i e) := by
  refine ⟨fun h => by unfold rNumE; rw [if_neg h], fun h => ?_⟩
  subst h
  have h1 : rNumE zs i 0 = rdE (zs.drop i) := by unfold rNumE; rw [if_pos rfl]
  unfold dNum rNumV rNumA
  rw [h1]
  by_cases h : rdE (zs.drop i) = 0
  · rw [if_pos h, if_pos h, if_pos h]; exact ⟨rfl, rfl, h⟩
  · rw [if_neg h]; exact ⟨rfl, h⟩
theorem got_cnt (zs : List Int) (m : Int) (i : Nat) (e : Int) : Got (dCnt zs m i) e (rCntV zs i e m) (rCntA zs i e m) (rCntE zs i e m) := by
  refine ⟨fun h => by unfold rCntE; rw [if_neg h], fun h => ?_⟩
  subst h
  have h1 : rCntE zs i 0 m = cntE (zs.drop i) m := by unfold rCntE; rw [if_pos rfl]
  unfold dCnt rCntV rCntA
  rw [h1]
  by_cases h : cntE (zs.drop i) m = 0
  · rw [if_pos h, if_pos h, if_pos h]; exact ⟨rfl, rfl, h⟩
  · rw [if_neg h]; exact ⟨rfl, h⟩
theorem got_txt (zs : List Int) (m : Int) (i : Nat) (e : Int) : Got (dTxt zs m i) e (strOf (rTxtV zs i e m)) (rTxtA zs i e m) (rTxtE zs i e m) := by
  refine ⟨fun h => by unfold rTxtE; rw [if_neg h], fun h => ?_⟩
  subst h
  have h1 : rTxtE zs i 0 m = txtE (zs.drop i) m := by unfold rTxtE; rw [if_pos rfl]
  unfold dTxt rTxtV rTxtA
  rw [h1]
  by_cases h : txtE (zs.drop i) m = 0
  · rw [if_pos h, if_pos h, if_pos h]; exact ⟨rfl, rfl, h⟩
  · rw [if_neg h]; exact ⟨rfl, h⟩
theorem got_flg (zs : List Int) (i : Nat) (e : Int) : Got (dFlg zs i) e (rFlgV zs i e) (rFlgA zs i e) (rFlgE zs i e) := by
  refine ⟨fun h => by unfold rFlgE; rw [if_neg h], fun h => ?_⟩
  subst h
  have h1 : rFlgE zs i 0 = flgE zs i := by unfold rFlgE flgE; rw [if_pos rfl]
  unfold dFlg rFlgV rFlgA
  rw [h1]
  by_cases h : flgE zs i = 0
  · rw [if_pos h, if_pos h]; exact ⟨by simp [h], rfl, h⟩
  · rw [if_neg h]; exact ⟨rfl, h⟩
/-- Where nothing is wrong it may be another one. -/
theorem Got.swap {α : Type} {d : Rdm α} {e e' : Int} {v u : α} {i' : Nat} (h : Got d e v i' e') (hu : e' = 0 → v = u) : Got d e u i' e' := by
  refine ⟨h.1, fun h0 => ?_⟩
  have h1 := h.2 h0
  cases d with
  | error x => exact h1
  | ok a =>
    obtain ⟨a, j⟩ := a
    obtain ⟨rfl, rfl, h3⟩ := h1
    exact ⟨(hu h3).symm, rfl, h3⟩
theorem Got.at_ {α : Type} {d : Rdm α} {e e' e2 : Int} {v u : α} {i' i2 : Nat} (h : Got d e v i' e') (h1 : v = u) (h2 : i' = i2) (h3 : e' = e2) : Got d e u i2 e2 := by subst h1 h2 h3; exact h
theorem Got.chk {α : Type} {d : Rdm α} {e e' : Int} {v : α} {i' : Nat} (h : Got d e v i' e') (b : α → Bool) : Got (dChk b d) e v i' (if b v then e' else rFailE e') := by
  refine ⟨fun h0 => ?_, fun h0 => ?_⟩
  · have h1 := h.1 h0
    subst h1
    unfold rFailE
    rw [if_neg h0]
    split <;> rfl
  · have h1 := h.2 h0
    unfold dChk Go.Proofs.Ytjkdccokiaejhaa.bnd
    cases d with
    | error x =>
      obtain ⟨rfl, h2⟩ := h1
      unfold rFailE
      rw [if_neg h2]
      exact ⟨by split <;> rfl, h2⟩
    | ok a =>
      obtain ⟨a, j⟩ := a
      obtain ⟨rfl, rfl, rfl⟩ := h1
      dsimp only
      by_cases hb : b v = true
      · rw [if_pos hb, if_pos hb]; exact ⟨rfl, rfl, rfl⟩
      · rw [if_neg hb, if_neg hb]; exact ⟨rfl, by decide⟩
theorem Got.error {α : Type} {d : Rdm α} {v : α} {i' : Nat} {e' x : Int} (h : Got d 0 v i' e') (hd : d = .error x) : e' = x ∧ x ≠ 0 := by subst hd; exact h.2 rfl
theorem Got.fine {α : Type} {d : Rdm α} {v a : α} {i' j : Nat} {e' : Int} (h : Got d 0 v i' e') (hd : d = .ok (a, j)) : v = a ∧ i' = j ∧ e' = 0 := by subst hd; exact h.2 rfl
/-- A command. -/
theorem got_cm0 (zs : List Int) (i : Nat) (e : Int) : Got (dCm0 zs i) e (readC zs i e).1 (readC zs i e).2.1 (readC zs i e).2.2 := by
  unfold dCm0
  by_cases h0 : rNumV zs i e = 0
  · rw [readC_none h0 rfl rfl]
    refine (got_num zs i e).bnd ?_
    rw [if_pos h0]
    exact Got.ok _ _ _
  · rw [readC_some h0 rfl rfl rfl rfl rfl rfl rfl rfl rfl rfl rfl rfl]
    refine (got_num zs i e).bnd ?_
    rw [if_neg h0]
    refine (got_num zs _ _).bnd ((got_num zs _ _).bnd ((got_txt zs 16 _ _).bnd ?_))
    by_cases g2 : rNumV zs i e = 2
    · rw [if_pos g2, if_pos g2]
      exact (got_txt zs 64 _ _).bnd (Got.ok _ _ _)
    · rw [if_neg g2, if_neg g2]
      by_cases g4 : rNumV zs i e = 4
      · rw [if_pos g4, if_pos g4]
        exact (got_txt zs 64 _ _).bnd ((got_txt zs 64 _ _).bnd (Got.ok _ _ _))
      · rw [if_neg g4, if_neg g4]
        by_cases g5 : rNumV zs i e = 5
        · rw [if_pos g5, if_pos g5]
          exact (got_txt zs 16 _ _).bnd (Got.ok _ _ _)
        · rw [if_neg g5, if_neg g5]
          exact Got.ok _ _ _
theorem got_cm (zs : List Int) (i : Nat) (e : Int) : Got (dCm zs i) e (getV zs i e) (getA zs i e) (getE zs i e) := by
  refine ((got_cm0 zs i e).chk rightC).swap fun h => ?_
  unfold getV
  rw [if_pos (show getE zs i e = 0 from h)]
/-- Numbers one behind the other. -/
def valsN (zs : List Int) : Nat → Int → Nat → List Int
  | _, _, 0 => []
  | i, e, n + 1 => rNumV zs i e :: valsN zs (rNumA zs i e) (rNumE zs i e) n
theorem got_nums (zs : List Int) : ∀ (n i : Nat) (e : Int), Got (dNums zs n i) e (valsN zs i e n) (stN zs i e n).1 (stN zs i e n).2
  | 0, _, _ => Got.ok _ _ _
  | n + 1, i, e => (got_num zs i e).bnd ((got_nums zs n _ _).bnd (Got.ok _ _ _))
theorem vals8 (zs : List Int) (i : Nat) (e : Int) : valsN zs i e 8 = tab8 (valN zs i e) := rfl
/-- Attributes. -/
theorem got_at (zs : List Int) (i : Nat) (e : Int) : Got (dAt zs i) e (d_getV zs i e) (stN zs i e 8).1 (d_getE zs i e) := by
  refine ((got_nums zs 8 i e).chk rightAl).swap fun h => ?_
  unfold d_getV
  rw [if_pos (show d_getE zs i e = 0 from h)]
  rfl
/-- A ballot, an instance. -/
theorem got_bal (zs : List Int) (i : Nat) (e : Int) : Got (dBal zs i) e (rNumV zs i e, rNumV zs (rNumA zs i e) (rNumE zs i e)) (rNumA zs (rNumA zs i e) (rNumE zs i e)) (rNumE zs (rNumA zs i e) (rNumE zs i e)) :=
  (got_num zs i e).bnd ((got_num zs _ _).bnd (Got.ok _ _ _))
/-- What is taken, behind End. -/
theorem got_end {zs : List Int} {m : Lt} {i' : Nat} {e' : Int} (h : Got (dLt0 zs 0) 0 m i' e') :
    decLt zs = if rEndE zs i' e' = 0 then (if rightLt m then (m, 0) else (zeroLt, 4)) else (zeroLt, rEndE zs i' e') := by
  unfold decLt
  cases hd : dLt0 zs 0 with
  | error x =>
    obtain ⟨rfl, h2⟩ := h.error hd
    have : rEndE zs i' e' = e' := by unfold rEndE; rw [if_neg h2]
    rw [this, if_neg h2]
  | ok v =>
    obtain ⟨a, j⟩ := v
    obtain ⟨rfl, rfl, rfl⟩ := h.fine hd
    unfold rEndE
    rw [if_pos rfl]
    dsimp only
    by_cases hj : i' < zs.length
    · rw [if_pos hj, if_pos hj, if_neg (by decide)]
    · rw [if_neg hj, if_neg hj, if_pos rfl]
end Go.Proofs.Ytjkdccokiaejhaa
/- Get of package deps, at a reader: its contract. No condition. -/
namespace Go.Proofs.Ytjkdccokiaejhaa
set_option maxRecDepth 100000
open Go.RowKit
/-- The first n of the numbers that f tells, then zeros. -/
def fill8 (f : Nat → Int) (n : Nat) : List Int := tab8 fun j => if j < n then f j else 0
theorem set_fill (f : Nat → Int) {k : Nat} (h : k < 7) : (cA (fill8 f (1 + k))).setIfInBounds (1 + k) (.int .i64 (f (1 + k))) = cA (fill8 f (1 + (k + 1))) := by
  match k, h with
  | 0, _ => rfl
  | 1, _ => rfl
  | 2, _ => rfl
  | 3, _ => rfl
  | 4, _ => rfl
  | 5, _ => rfl
  | 6, _ => rfl
theorem grown_own {a b : World} {row : Option Nat} (h : a.grownBy b row) {g : Nat} (hg : a.heap.size ≤ g) (i : Nat) (u : Value) : a.grownBy (b.setCell ⟨g, i, none⟩ u) row :=
  ⟨h.os, h.tape, h.output, by have := h.size; simpa [World.setCell] using this, fun k hk hr => (Below.heap_setCell b ⟨g, i, none⟩ u k (by show k ≠ g; omega)).trans (h.block k hk hr)⟩
theorem grown_eight {a b : World} {row : Option Nat} (h : a.grownBy b row) {g : Nat} (hg : a.heap.size ≤ g) (v0 v1 v2 v3 v4 v5 v6 v7 : Value) :
    a.grownBy ((((((((b.setCell ⟨g, 0, none⟩ v0).setCell ⟨g, 1, none⟩ v1).setCell ⟨g, 2, none⟩ v2).setCell ⟨g, 3, none⟩ v3).setCell ⟨g, 4, none⟩ v4).setCell ⟨g, 5, none⟩ v5).setCell ⟨g, 6, none⟩ v6).setCell ⟨g, 7, none⟩ v7) row :=
  grown_own (grown_own (grown_own (grown_own (grown_own (grown_own (grown_own (grown_own h hg _ _) hg _ _) hg _ _) hg _ _) hg _ _) hg _ _) hg _ _) hg _ _
section
variable {w wr w' : World} {B g S : Nat} {zs : List Int} {i : Nat} {e : Int} {n m : Nat}
theorem eight_lit8 {z0 z1 z2 z3 z4 z5 z6 z7 : Int} {t : TypeId} (h : Row w g t (cA [z0, z1, z2, z3, z4, z5, z6, z7])) : w.cell? ⟨g, 0, none⟩ = some (.int .i64 z0) ∧ w.cell? ⟨g, 1, none⟩ = some (.int .i64 z1) ∧ w.cell? ⟨g, 2, none⟩ = some (.int .i64 z2) ∧ w.cell? ⟨g, 3, none⟩ = some (.int .i64 z3) ∧ w.cell? ⟨g, 4, none⟩ = some (.int .i64 z4) ∧ w.cell? ⟨g, 5, none⟩ = some (.int .i64 z5) ∧ w.cell? ⟨g, 6, none⟩ = some (.int .i64 z6) ∧ w.cell? ⟨g, 7, none⟩ = some (.int .i64 z7) := h.eight
theorem eight_zero {t : TypeId} (h : Row w g t (cA zero8)) : w.cell? ⟨g, 0, none⟩ = some (.int .i64 0) ∧ w.cell? ⟨g, 1, none⟩ = some (.int .i64 0) ∧ w.cell? ⟨g, 2, none⟩ = some (.int .i64 0) ∧ w.cell? ⟨g, 3, none⟩ = some (.int .i64 0) ∧ w.cell? ⟨g, 4, none⟩ = some (.int .i64 0) ∧ w.cell? ⟨g, 5, none⟩ = some (.int .i64 0) ∧ w.cell? ⟨g, 6, none⟩ = some (.int .i64 0) ∧ w.cell? ⟨g, 7, none⟩ = some (.int .i64 0) := h.eight
end
end Go.Proofs.Ytjkdccokiaejhaa
/- The document's getBallot, getInst. Conditions: the reader lies in memory as it must. -/
namespace Go.Proofs.Ytjkdccokiaejhaa
set_option maxRecDepth 100000
open Go.RowKit
theorem results_bal {fn : Func} {p : Tmp} {tmps : Array Value} {w : World} {g : Nat} {t : TypeId} {v0 v1 : Value} (hf : fn.results = #[.cell p 30]) (hp : tmps.getD p undef = .pointer (some ⟨g, 0, none⟩)) (hr : Row w g t #[v0, v1]) :
    (results fn tmps).run Try.prog w = .ok (.agg #[v0, v1]) w :=
  results_cell_row hf tmps w g t _ _ _ hp hr Try.underlying30 rfl (by kernel_rfl)
theorem results_in {fn : Func} {p : Tmp} {tmps : Array Value} {w : World} {g : Nat} {t : TypeId} {v0 v1 : Value} (hf : fn.results = #[.cell p 40]) (hp : tmps.getD p undef = .pointer (some ⟨g, 0, none⟩)) (hr : Row w g t #[v0, v1]) :
    (results fn tmps).run Try.prog w = .ok (.agg #[v0, v1]) w :=
  results_cell_row hf tmps w g t _ _ _ hp hr Try.underlying40 rfl (by kernel_rfl)
end Go.Proofs.Ytjkdccokiaejhaa
/- What read and Get of package cmd come to. Conditions: the reader lies in memory as it must. -/
namespace Go.Proofs.Ytjkdccokiaejhaa
set_option maxRecDepth 100000
open Go.RowKit
/-- A command was read. -/
def ReadTo (t : TypeId) (w : World) (B g : Nat) (zs : List Int) (r : Cm × Nat × Int) (y : Ending) (w' : World) : Prop :=
  y = .returned (valC r.1) ∧ Rdr t w' B g zs r.2.1 r.2.2 ∧ w.grownBy w' (some g)
theorem c_grown_alloc {a b : World} {row : Option Nat} (h : a.grownBy b row) (o : Obj) : a.grownBy (b.alloc o) row :=
  ⟨h.os, h.tape, h.output, by have := h.size; simp; omega, fun k hk hr => (Below.heap_alloc b o k (by have := h.size; omega)).trans (h.block k hk hr)⟩
theorem Rz.start {t : TypeId} {W w1 : World} {B g i' : Nat} {zs : List Int} {e' : Int} (x : Cm) (hr : Rdr t w1 B g zs i' e') (hg : (W.alloc (.cells (rowC zeroC) 32)).grownBy w1 (some g)) (hlt : g < W.heap.size) :
    Rz t W (w1.alloc (.cells (rowC x) 32)) B g zs i' e' W.heap.size w1.heap.size x :=
  have hs : W.heap.size + 1 ≤ w1.heap.size := by have := hg.size; simpa using this
  have hl : Row (W.alloc (.cells (rowC zeroC) 32)) W.heap.size 32 (rowC zeroC) := Row.new W 32 (rowC zeroC)
  ⟨hr.alloc _, (hl.far hg (by omega)).below ((Below.refl w1.heap.size w1).alloc (Nat.le_refl _) _) (by omega), Row.new w1 _ _,
    c_grown_alloc (grown_trans (c_grown_alloc (grown_refl W _) _) hg) _, Nat.le_refl _, hlt, by omega⟩
/-- The answer out of its block. -/
theorem results_row {fn : Func} {tmps : Array Value} {w : World} {a h : Nat} {t : TypeId} {x : Cm} (hf : fn.results = #[.cell a 32]) (ht : tmps[a]? = some (.pointer (some ⟨h, 0, none⟩))) (hr : Row w h t (rowC x)) :
    (results fn tmps).run Try.prog w = .ok (valC x) w := by
  obtain ⟨c0, c1, c2, c3, c4, c5, c6⟩ := hr.cells7
  simp [results, hf, ht, go_sem, valC, c0, c1, c2, c3, c4, c5, c6]
theorem seven_put {a b c d e f g u0 u1 u2 u3 u4 u5 u6 : Value} : (((((((#[a, b, c, d, e, f, g] : Array Value).setIfInBounds 0 u0).setIfInBounds 1 u1).setIfInBounds 2 u2).setIfInBounds 3 u3).setIfInBounds 4 u4).setIfInBounds 5 u5).setIfInBounds 6 u6 = #[u0, u1, u2, u3, u4, u5, u6] := by
  simp
/-- All seven cells are written. -/
theorem Row.seven {w : World} {h : Nat} {t : TypeId} {x : Cm} (r : Row w h t (rowC x)) (u0 u1 u2 u3 u4 u5 u6 : Value) :
    Row (((((((w.setCell ⟨h, 0, none⟩ u0).setCell ⟨h, 1, none⟩ u1).setCell ⟨h, 2, none⟩ u2).setCell ⟨h, 3, none⟩ u3).setCell ⟨h, 4, none⟩ u4).setCell ⟨h, 5, none⟩ u5).setCell ⟨h, 6, none⟩ u6) h t #[u0, u1, u2, u3, u4, u5, u6] := by
  have z := ((((((r.put 0 u0).put 1 u1).put 2 u2).put 3 u3).put 4 u4).put 5 u5).put 6 u6
  unfold rowC at z
  rw [seven_put] at z
  exact z
theorem Rz.done {t : TypeId} {W w : World} {B g i h2 h : Nat} {zs : List Int} {e : Int} {x x' : Cm} (s : Rz t W w B g zs i e h2 h x) (u0 u1 u2 u3 u4 u5 u6 : Value) :
    ReadTo t W B g zs (x', i, e) (.returned (valC x')) (((((((w.setCell ⟨h2, 0, none⟩ u0).setCell ⟨h2, 1, none⟩ u1).setCell ⟨h2, 2, none⟩ u2).setCell ⟨h2, 3, none⟩ u3).setCell ⟨h2, 4, none⟩ u4).setCell ⟨h2, 5, none⟩ u5).setCell ⟨h2, 6, none⟩ u6) :=
  have K := (((((((s.kp.put 0 u0).put 1 u1).put 2 u2).put 3 u3).put 4 u4).put 5 u5).put 6 u6)
  ⟨rfl, K.r, K.old⟩
end Go.Proofs.Ytjkdccokiaejhaa
/- What Get of package cmd comes to. Conditions: the reader lies in memory as it must. -/
namespace Go.Proofs.Ytjkdccokiaejhaa
set_option maxRecDepth 100000
open Go.RowKit
section
variable {t : TypeId} {W w w' : World} {B g i i' h2 h : Nat} {zs : List Int} {e e' : Int} {x : Cm}
theorem Rz.quiet (s : Rz t W w B g zs i e h2 h x) (hb : Below w.heap.size w w') : Rz t W w' B g zs i e h2 h x :=
  have h1 := s.res.lt
  have h3 := s.c.lt
  ⟨s.r.below hb, s.res.below hb h1, s.c.below hb h3, ⟨hb.os.trans s.old.os, hb.tape.trans s.old.tape, hb.output.trans s.old.output, Nat.le_trans s.old.size hb.size, fun k hk hn => (hb.block k (Nat.lt_of_lt_of_le hk s.old.size)).trans (s.old.block k hk hn)⟩, s.new, s.g2, s.lt⟩
theorem Rz.call {P : Program} {F : FuncId} {args : Array Value} {v : Value} (s : Rz t W w B g zs i e h2 h x) (hf : Calls P F args w fun y w' => y = .returned v ∧ Below w.heap.size w w') :
    Calls P F args w fun y w' => y = .returned v ∧ Cells7 w' h x ∧ (Cells7 w' h2 zeroC ∧ Free7 w' h2) ∧ Rz t W w' B g zs i e h2 h x :=
  hf.mono fun _ _ ⟨hy, hb⟩ => have z := s.quiet hb; ⟨hy, z.c.cells7, ⟨z.res.cells7, z.res.free7⟩, z⟩
end
end Go.Proofs.Ytjkdccokiaejhaa
