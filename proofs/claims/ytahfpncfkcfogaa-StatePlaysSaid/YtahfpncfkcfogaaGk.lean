/- A state's bytes, and what bytes are taken as, in plain words; there and back. No condition: nothing here speaks of a program. -/
import Derived.Test.YtahfpncfkcfogaaGj
import Derived.Test.YtahfpncfkcfogaaGf
import Derived.Test.YtahfpncfkcfogaaGh
import Derived.Test.YtahfpncfkcfogaaGc
namespace Go.Proofs.Ytahfpncfkcfogaa
open Go.RowKit
def flg7 (f : Bool) : List Int := [if f then 1 else 0]
def encR (p : Pr) : List Int := text7 p.k ++ (text7 p.v ++ num7 p.n)
def encP (l : List Pr) : List Int := num7 l.length ++ l.flatMap encR
def encO (o : Ow) : List Int := num7 o.s ++ (if o.s = 0 then [] else num7 o.r.why ++ (flg7 o.r.fnd ++ (text7 o.r.val ++ (num7 o.r.ver ++ encP o.r.l))))
def encA (s : Sm) : List Int := encP s.l ++ s.o.flatMap encO
noncomputable def rightSB (s : Sm) : Bool := rightB s.l && s.o.all mayO
noncomputable def encS (s : Sm) : List Int := if rightSB s = true then encA s else []
/-- What is read: an error, or a thing and the place behind it. -/
abbrev Rdm (α : Type) := Except Int (α × Nat)
def bnd {α β : Type} (x : Rdm α) (f : α → Nat → Rdm β) : Rdm β := match x with
  | .ok (a, j) => f a j
  | .error e => .error e
def dNum (zs : List Int) (i : Nat) : Rdm Int := if rdE (zs.drop i) = 0 then .ok (rdV (zs.drop i), i + rdS (zs.drop i)) else .error (rdE (zs.drop i))
def dCnt (zs : List Int) (m : Int) (i : Nat) : Rdm Int := if cntE (zs.drop i) m = 0 then .ok (rdV (zs.drop i), i + rdS (zs.drop i)) else .error (cntE (zs.drop i) m)
def dTxt (zs : List Int) (m : Int) (i : Nat) : Rdm ByteArray := if txtE (zs.drop i) m = 0 then .ok (strOf (((zs.drop i).drop (rdS (zs.drop i))).take (rdV (zs.drop i)).toNat), i + rdS (zs.drop i) + (rdV (zs.drop i)).toNat) else .error (txtE (zs.drop i) m)
def flgE (zs : List Int) (i : Nat) : Int := if i < zs.length then (if 1 < ix zs i then 4 else 0) else 3
def dFlg (zs : List Int) (i : Nat) : Rdm Bool := if flgE zs i = 0 then .ok (decide (ix zs i = 1), i + 1) else .error (flgE zs i)
def dPair (zs : List Int) (i : Nat) : Rdm Pr := bnd (dTxt zs 16 i) fun k j => bnd (dTxt zs 64 j) fun v j => bnd (dNum zs j) fun n j => .ok (⟨k, v, n⟩, j)
def dPairsN (zs : List Int) : Nat → Nat → Rdm (List Pr)
  | 0, i => .ok ([], i)
  | n + 1, i => bnd (dPair zs i) fun p j => bnd (dPairsN zs n j) fun l j => .ok (p :: l, j)
def dPairs (zs : List Int) (m : Int) (i : Nat) : Rdm (List Pr) := bnd (dCnt zs m i) fun n j => dPairsN zs n.toNat j
def dOwn (zs : List Int) (i : Nat) : Rdm Ow := bnd (dNum zs i) fun s j => if s = 0 then .ok (zeroO, j) else
  bnd (dNum zs j) fun w j => bnd (dFlg zs j) fun f j => bnd (dTxt zs 64 j) fun v j => bnd (dNum zs j) fun n j => bnd (dPairs zs 8 j) fun l j => .ok (⟨s, ⟨w, f, v, n, l⟩⟩, j)
def dOwns (zs : List Int) : Nat → Nat → Rdm (List Ow)
  | 0, i => .ok ([], i)
  | n + 1, i => bnd (dOwn zs i) fun o j => bnd (dOwns zs n j) fun l j => .ok (o :: l, j)
def dAll (zs : List Int) : Rdm Sm := bnd (dPairs zs 32 0) fun l j => bnd (dOwns zs 8 j) fun o j => if j < zs.length then .error 5 else .ok (⟨l, o⟩, j)
noncomputable def decS (zs : List Int) : Sm × Int := match dAll zs with
  | .error e => (zeroS, e)
  | .ok (s, _) => if rightSB s = true then (s, 0) else (zeroS, 4)
/-! ### There -/
section
variable {zs ys : List Int} {i : Nat}
theorem drop_next {e : List Int} (hd : zs.drop i = e ++ ys) : zs.drop (i + e.length) = ys := by rw [← List.drop_drop, hd, List.drop_left]
theorem num_there (n : Int) (hd : zs.drop i = num7 n ++ ys) (h0 : -9223372036854775808 ≤ n) (h1 : n ≤ 9223372036854775807) : dNum zs i = .ok (n, i + (num7 n).length) := by
  obtain ⟨e1, e2, e3⟩ := rd_num7 n ys h0 h1
  unfold dNum
  rw [hd, if_pos e3, e1, e2]
theorem cnt_there (n : Nat) (m : Int) (hd : zs.drop i = num7 n ++ ys) (h : (n : Int) ≤ m) (hm : m ≤ 1000) : dCnt zs m i = .ok ((n : Int), i + (num7 n).length) := by
  obtain ⟨e1, e2, e3⟩ := rd_num7 n ys (by omega) (by omega)
  have ec : cntE (zs.drop i) m = 0 := by unfold cntE; rw [hd, e3, if_pos rfl, e1, if_neg (by omega)]
  unfold dCnt
  rw [if_pos ec, hd, e1, e2]
theorem txt_there (s : ByteArray) (m : Int) (hd : zs.drop i = text7 s ++ ys) (hs : (s.size : Int) ≤ m) (hm : m ≤ 1000) : dTxt zs m i = .ok (s, i + (text7 s).length) := by
  have hd' : zs.drop i = num7 (s.size : Int) ++ (strL s ++ ys) := by rw [hd]; unfold text7; rw [List.append_assoc]
  obtain ⟨e1, e2, e3⟩ := rd_num7 (s.size : Int) (strL s ++ ys) (by omega) (by omega)
  have ec : cntE (zs.drop i) m = 0 := by unfold cntE; rw [hd', e3, if_pos rfl, e1, if_neg (by omega)]
  have et : txtE (zs.drop i) m = 0 := by
    unfold txtE
    rw [ec, if_pos rfl, hd', e1, e2, List.length_append, List.length_append, length_strL, if_neg (by omega)]
  unfold dTxt
  rw [if_pos et, hd', e1, e2, List.drop_left, Int.toNat_natCast, ← length_strL, List.take_left, str_strL, text7_len, length_strL, Nat.add_assoc]
theorem flg_there (f : Bool) (hd : zs.drop i = flg7 f ++ ys) : dFlg zs i = .ok (f, i + (flg7 f).length) := by
  have hi : i < zs.length := by
    rcases Nat.lt_or_ge i zs.length with h | h
    · exact h
    · rw [List.drop_of_length_le h] at hd; cases f <;> cases hd
  have hx : ix zs i = if f then 1 else 0 := by
    rw [List.drop_eq_getElem_cons hi] at hd
    rw [ix_lt zs hi]
    cases f
    · injection hd
    · injection hd
  have he : flgE zs i = 0 := by unfold flgE; rw [if_pos hi, hx]; cases f <;> rfl
  unfold dFlg
  rw [if_pos he, hx]
  cases f <;> rfl
theorem pair_there (p : Pr) (hd : zs.drop i = encR p ++ ys) (hp : mayB p = true) (hn : p.n ≤ 9223372036854775807) : dPair zs i = .ok (p, i + (encR p).length) := by
  obtain ⟨_, k16, v64, n1⟩ := may_says hp
  unfold encR at hd ⊢
  simp only [List.append_assoc] at hd
  have t1 := txt_there p.k 16 hd (by omega) (by omega)
  have d1 := drop_next hd
  have t2 := txt_there p.v 64 d1 (by omega) (by omega)
  have d2 := drop_next d1
  have t3 := num_there p.n d2 (by omega) hn
  unfold dPair
  rw [t1]
  simp only [bnd]
  rw [t2]
  dsimp only
  rw [t3]
  simp only [List.length_append, Nat.add_assoc]
theorem pairsN_there : ∀ (l : List Pr) {i : Nat} {ys : List Int}, zs.drop i = l.flatMap encR ++ ys → (∀ p, p ∈ l → mayB p = true ∧ p.n ≤ 9223372036854775807) → dPairsN zs l.length i = .ok (l, i + (l.flatMap encR).length)
  | [], i, ys, _, _ => by simp [dPairsN]
  | p :: r, i, ys, hd, h => by
    rw [List.flatMap_cons, List.append_assoc] at hd
    have hp := h p (List.mem_cons_self ..)
    have t1 := pair_there p hd hp.1 hp.2
    have t2 := pairsN_there r (drop_next hd) (fun q hq => h q (List.mem_cons_of_mem _ hq))
    rw [List.length_cons]
    unfold dPairsN
    rw [t1]
    simp only [bnd]
    rw [t2, List.flatMap_cons, List.length_append, Nat.add_assoc]
theorem pairs_there (l : List Pr) (m : Int) (hd : zs.drop i = encP l ++ ys) (h : ∀ p, p ∈ l → mayB p = true ∧ p.n ≤ 9223372036854775807) (hl : (l.length : Int) ≤ m) (hm : m ≤ 1000) : dPairs zs m i = .ok (l, i + (encP l).length) := by
  unfold encP at hd ⊢
  rw [List.append_assoc] at hd
  have t1 := cnt_there l.length m hd hl hm
  have t2 := pairsN_there l (drop_next hd) h
  unfold dPairs
  rw [t1]
  simp only [bnd, Int.toNat_natCast]
  rw [t2, List.length_append, Nat.add_assoc]
theorem own_there (o : Ow) (hd : zs.drop i = encO o ++ ys) (ho : mayO o = true) (hw : ∀ p, p ∈ o.r.l → mayB p = true ∧ p.n ≤ 9223372036854775807) (hv : o.r.ver ≤ 9223372036854775807) : dOwn zs i = .ok (o, i + (encO o).length) := by
  unfold mayO at ho
  unfold encO at hd ⊢
  rw [List.append_assoc] at hd
  by_cases h0 : o.s = 0
  · rw [if_pos h0, null_iff, decide_eq_true_iff] at ho
    rw [if_pos h0] at hd ⊢
    have t1 := num_there o.s hd (by omega) (by omega)
    unfold dOwn
    rw [t1]
    simp only [bnd]
    rw [if_pos h0, List.append_nil]
    obtain ⟨s, r⟩ := o
    dsimp only at h0 ho
    subst h0 ho
    rfl
  · rw [if_neg h0] at ho hd
    rw [if_neg h0]
    unfold okR at ho
    simp only [Bool.and_eq_true, decide_eq_true_eq, Bool.or_eq_true, beq_iff_eq] at ho
    obtain ⟨q1, q2, q3, q4, q5, q6, _⟩ := ho
    simp only [List.append_assoc] at hd
    have t1 := num_there o.s hd (by omega) (by omega)
    have d1 := drop_next hd
    have t2 := num_there o.r.why d1 (by omega) (by omega)
    have d2 := drop_next d1
    have t3 := flg_there o.r.fnd d2
    have d3 := drop_next d2
    have t4 := txt_there o.r.val 64 d3 (by omega) (by omega)
    have d4 := drop_next d3
    have t5 := num_there o.r.ver d4 (by omega) hv
    have d5 := drop_next d4
    have t6 := pairs_there o.r.l 8 d5 hw (by omega) (by omega)
    unfold dOwn
    rw [t1]
    simp only [bnd]
    rw [if_neg h0, t2]
    dsimp only
    rw [t3]
    dsimp only
    rw [t4]
    dsimp only
    rw [t5]
    dsimp only
    rw [t6]
    simp only [List.length_append, Nat.add_assoc]
theorem owns_there : ∀ (l : List Ow) {i : Nat} {ys : List Int}, zs.drop i = l.flatMap encO ++ ys → (∀ o, o ∈ l → mayO o = true ∧ (∀ p, p ∈ o.r.l → mayB p = true ∧ p.n ≤ 9223372036854775807) ∧ o.r.ver ≤ 9223372036854775807) → dOwns zs l.length i = .ok (l, i + (l.flatMap encO).length)
  | [], i, ys, _, _ => by simp [dOwns]
  | o :: r, i, ys, hd, h => by
    rw [List.flatMap_cons, List.append_assoc] at hd
    obtain ⟨h1, h2, h3⟩ := h o (List.mem_cons_self ..)
    have t1 := own_there o hd h1 h2 h3
    have t2 := owns_there r (drop_next hd) (fun q hq => h q (List.mem_cons_of_mem _ hq))
    rw [List.length_cons]
    unfold dOwns
    rw [t1]
    simp only [bnd]
    rw [t2, List.flatMap_cons, List.length_append, Nat.add_assoc]
end
/-- All numbers are such as an int holds. -/
structure Bd (s : Sm) : Prop where
  l : ∀ p, p ∈ s.l → p.n ≤ 9223372036854775807
  o : ∀ o, o ∈ s.o → (∀ p, p ∈ o.r.l → p.n ≤ 9223372036854775807) ∧ o.r.ver ≤ 9223372036854775807
theorem right_may {l : List Pr} (h : rightB l = true) : ∀ p, p ∈ l → mayB p = true := fun p hp => by
  unfold rightB at h
  have h := @of_decide_eq_true _ (Classical.propDecidable _) h
  obtain ⟨j, hj⟩ := List.getElem?_of_mem hp
  have hl : j < l.length := by
    rcases Nat.lt_or_ge j l.length with h1 | h1
    · exact h1
    · rw [List.getElem?_eq_none h1] at hj; cases hj
  have := h.2 j hl
  unfold okAt at this
  rw [hj] at this
  simp only [Bool.and_eq_true] at this
  exact this.1
theorem right_len {l : List Pr} (h : rightB l = true) : l.length ≤ 32 := by
  unfold rightB at h
  exact (@of_decide_eq_true _ (Classical.propDecidable _) h).1
theorem own_pairs {o : Ow} (h : mayO o = true) : ∀ p, p ∈ o.r.l → mayB p = true := fun p hp => by
  unfold mayO at h
  by_cases h0 : o.s = 0
  · rw [if_pos h0, null_iff, decide_eq_true_iff] at h
    rw [h] at hp
    cases hp
  · rw [if_neg h0] at h
    unfold okR at h
    simp only [Bool.and_eq_true] at h
    exact right_may h.2.2.2.2.2.2 p hp
/-- P13.5: Get of Put is the state. -/
theorem state_there {s : Sm} (h8 : s.o.length = 8) (hr : rightSB s = true) (hb : Bd s) : decS (encS s) = (s, 0) := by
  have hr' := hr
  unfold rightSB at hr
  rw [Bool.and_eq_true, List.all_eq_true] at hr
  have e : encS s = encA s := by unfold encS; rw [if_pos hr']
  rw [e]
  have hd : (encA s).drop 0 = encP s.l ++ s.o.flatMap encO := rfl
  have t1 := pairs_there s.l 32 hd (fun p hp => ⟨right_may hr.1 p hp, hb.l p hp⟩) (by have := right_len hr.1; omega) (by omega)
  have d1 := drop_next hd
  have t2 := owns_there (zs := encA s) (ys := []) s.o (i := 0 + (encP s.l).length) (by rw [List.append_nil]; exact d1) (fun o ho => ⟨hr.2 o ho, fun p hp => ⟨own_pairs (hr.2 o ho) p hp, (hb.o o ho).1 p hp⟩, (hb.o o ho).2⟩)
  rw [h8] at t2
  have ha : dAll (encA s) = .ok (s, (encA s).length) := by
    unfold dAll
    rw [t1]
    simp only [bnd]
    rw [t2]
    dsimp only
    have hlen : 0 + (encP s.l).length + (s.o.flatMap encO).length = (encA s).length := by unfold encA; rw [List.length_append, Nat.zero_add]
    rw [hlen, if_neg (Nat.lt_irrefl _)]
  unfold decS
  rw [ha]
  dsimp only
  rw [if_pos hr']
end Go.Proofs.Ytahfpncfkcfogaa
/- What bytes are taken as a state are that state's bytes, in plain words. No condition: nothing here speaks of a program. -/
namespace Go.Proofs.Ytahfpncfkcfogaa
open Go.RowKit
/-! ### An error is never nought -/
def Nz {α : Type} (x : Rdm α) : Prop := ∀ e, x = .error e → e ≠ 0
theorem Nz.ok {α : Type} (v : α × Nat) : Nz (.ok v : Rdm α) := fun e h => by cases h
theorem Nz.bnd {α β : Type} {x : Rdm α} {f : α → Nat → Rdm β} (hx : Nz x) (hf : ∀ a j, Nz (f a j)) : Nz (bnd x f) := by
  unfold Go.Proofs.Ytahfpncfkcfogaa.bnd
  cases x with
  | error e => exact fun e' h => hx e' (by cases h; rfl)
  | ok v => obtain ⟨a, j⟩ := v; exact hf a j
theorem nz_if {α : Type} {y : Int} {v : α × Nat} : Nz (if y = 0 then .ok v else .error y : Rdm α) := by
  split
  · exact Nz.ok v
  · rename_i h
    exact fun e he => by cases he; exact h
theorem nz_num (zs : List Int) (i : Nat) : Nz (dNum zs i) := nz_if
theorem nz_cnt (zs : List Int) (m : Int) (i : Nat) : Nz (dCnt zs m i) := nz_if
theorem nz_txt (zs : List Int) (m : Int) (i : Nat) : Nz (dTxt zs m i) := nz_if
theorem nz_flg (zs : List Int) (i : Nat) : Nz (dFlg zs i) := nz_if
theorem nz_pair (zs : List Int) (i : Nat) : Nz (dPair zs i) := (nz_txt _ _ _).bnd fun _ _ => (nz_txt _ _ _).bnd fun _ _ => (nz_num _ _).bnd fun _ _ => Nz.ok _
theorem nz_pairsN (zs : List Int) : ∀ (n i : Nat), Nz (dPairsN zs n i)
  | 0, _ => Nz.ok _
  | n + 1, i => (nz_pair zs i).bnd fun _ j => (nz_pairsN zs n j).bnd fun _ _ => Nz.ok _
theorem nz_pairs (zs : List Int) (m : Int) (i : Nat) : Nz (dPairs zs m i) := (nz_cnt _ _ _).bnd fun _ _ => nz_pairsN _ _ _
theorem nz_own (zs : List Int) (i : Nat) : Nz (dOwn zs i) := (nz_num _ _).bnd fun s j => by
  split
  · exact Nz.ok _
  · exact (nz_num _ _).bnd fun _ _ => (nz_flg _ _).bnd fun _ _ => (nz_txt _ _ _).bnd fun _ _ => (nz_num _ _).bnd fun _ _ => (nz_pairs _ _ _).bnd fun _ _ => Nz.ok _
theorem nz_owns (zs : List Int) : ∀ (n i : Nat), Nz (dOwns zs n i)
  | 0, _ => Nz.ok _
  | n + 1, i => (nz_own zs i).bnd fun _ j => (nz_owns zs n j).bnd fun _ _ => Nz.ok _
theorem nz_all (zs : List Int) : Nz (dAll zs) := (nz_pairs _ _ _).bnd fun _ _ => (nz_owns _ _ _).bnd fun _ _ => by
  split
  · exact fun e h => by cases h; decide
  · exact Nz.ok _
/-! ### Back -/
theorem bnd_ok {α β : Type} {x : Rdm α} {f : α → Nat → Rdm β} {v : β × Nat} (h : bnd x f = .ok v) : ∃ a j, x = .ok (a, j) ∧ f a j = .ok v := by
  unfold bnd at h
  cases x with
  | error e => cases h
  | ok w => obtain ⟨a, j⟩ := w; exact ⟨a, j, rfl, h⟩
theorem strL_strOf {x : List Int} (h : Octets x) : strL (strOf x) = x ∧ (strOf x).size = x.length := by
  constructor
  · unfold strL strOf
    rw [List.toList_toArray, List.map_map]
    conv => rhs; rw [← List.map_id x]
    apply List.map_congr_left
    intro z hz
    obtain ⟨h0, h1⟩ := h z hz
    show ((UInt8.ofNat z.toNat).toNat : Int) = z
    rw [UInt8.toNat_ofNat']
    omega
  · unfold strOf
    show (List.toArray _).size = _
    simp
section
variable {zs : List Int} {i j : Nat}
theorem num_back (hz : Octets zs) {n : Int} (h : dNum zs i = .ok (n, j)) : zs.drop i = num7 n ++ zs.drop j ∧ -9223372036854775808 ≤ n ∧ n ≤ 9223372036854775807 := by
  unfold dNum at h
  split at h
  · rename_i he
    cases h
    have ho := octets_drop hz i
    have hb := rd_bounds ho
    refine ⟨?_, hb.1, hb.2.1⟩
    rw [rd_back ho he, ← List.drop_drop, List.take_append_drop]
  · cases h
theorem cnt_says {ys : List Int} {m : Int} (h : cntE ys m = 0) : rdE ys = 0 ∧ 0 ≤ rdV ys ∧ rdV ys ≤ m := by
  unfold cntE at h
  split at h
  · rename_i he
    split at h
    · cases h
    · rename_i hn
      exact ⟨he, by omega, by omega⟩
  · rename_i he
    exact absurd h he
theorem cnt_back (hz : Octets zs) {m n : Int} (h : dCnt zs m i = .ok (n, j)) : zs.drop i = num7 n ++ zs.drop j ∧ 0 ≤ n ∧ n ≤ m := by
  unfold dCnt at h
  split at h
  · rename_i hc
    cases h
    obtain ⟨he, h0, h1⟩ := cnt_says hc
    have ho := octets_drop hz i
    refine ⟨?_, h0, h1⟩
    rw [rd_back ho he, ← List.drop_drop, List.take_append_drop]
  · cases h
theorem txt_back (hz : Octets zs) {m : Int} {s : ByteArray} (h : dTxt zs m i = .ok (s, j)) : zs.drop i = text7 s ++ zs.drop j := by
  unfold dTxt at h
  split at h
  · rename_i ht
    cases h
    have ho := octets_drop hz i
    generalize hy : zs.drop i = ys at ht ho ⊢
    have hc : cntE ys m = 0 ∧ (rdV ys ≤ (ys.length : Int) - (rdS ys : Nat)) := by
      unfold txtE at ht
      split at ht
      · rename_i hc
        split at ht
        · cases ht
        · exact ⟨hc, by omega⟩
      · rename_i hc
        exact absurd ht hc
    obtain ⟨he, h0, _⟩ := cnt_says hc.1
    have hb := rd_back ho he
    have hx : Octets ((ys.drop (rdS ys)).take (rdV ys).toNat) := octets_take (octets_drop ho _) _
    obtain ⟨x1, x2⟩ := strL_strOf hx
    have hl : ((ys.drop (rdS ys)).take (rdV ys).toNat).length = (rdV ys).toNat := by
      rw [List.length_take, List.length_drop]; omega
    unfold text7
    rw [x1, x2, hl, Int.toNat_of_nonneg h0, hb, ← List.drop_drop, ← List.drop_drop, hy, List.append_assoc, List.take_append_drop, List.take_append_drop]
  · cases h
theorem flg_back (hz : Octets zs) {f : Bool} (h : dFlg zs i = .ok (f, j)) : zs.drop i = flg7 f ++ zs.drop j := by
  unfold dFlg at h
  split at h
  · rename_i he
    cases h
    unfold flgE at he
    split at he
    · rename_i hi
      split at he
      · cases he
      · rename_i h1
        have h0 := (hz.ix i).1
        rw [List.drop_eq_getElem_cons hi, ← ix_lt zs hi]
        show ix zs i :: zs.drop (i + 1) = flg7 _ ++ zs.drop (i + 1)
        have : flg7 (decide (ix zs i = 1)) = [ix zs i] := by
          unfold flg7
          by_cases e : ix zs i = 1
          · rw [decide_eq_true e, e]; rfl
          · rw [decide_eq_false e]
            have : ix zs i = 0 := by omega
            rw [this]; rfl
        rw [this]; rfl
    · cases he
  · cases h
theorem pair_back (hz : Octets zs) {p : Pr} (h : dPair zs i = .ok (p, j)) : zs.drop i = encR p ++ zs.drop j ∧ p.n ≤ 9223372036854775807 := by
  unfold dPair at h
  obtain ⟨k, j1, e1, h⟩ := bnd_ok h
  obtain ⟨v, j2, e2, h⟩ := bnd_ok h
  obtain ⟨n, j3, e3, h⟩ := bnd_ok h
  cases h
  obtain ⟨t3, _, b3⟩ := num_back hz e3
  refine ⟨?_, b3⟩
  unfold encR
  rw [txt_back hz e1, txt_back hz e2, t3]
  simp only [List.append_assoc]
theorem pairsN_back (hz : Octets zs) : ∀ (n : Nat) {i j : Nat} {l : List Pr}, dPairsN zs n i = .ok (l, j) → zs.drop i = l.flatMap encR ++ zs.drop j ∧ l.length = n ∧ ∀ p, p ∈ l → p.n ≤ 9223372036854775807
  | 0, i, j, l, h => by cases h; exact ⟨rfl, rfl, fun p hp => by cases hp⟩
  | n + 1, i, j, l, h => by
    unfold dPairsN at h
    obtain ⟨p, j1, e1, h⟩ := bnd_ok h
    obtain ⟨r, j2, e2, h⟩ := bnd_ok h
    cases h
    obtain ⟨t1, b1⟩ := pair_back hz e1
    obtain ⟨t2, l2, b2⟩ := pairsN_back hz n e2
    refine ⟨by rw [t1, t2, List.flatMap_cons, List.append_assoc], by rw [List.length_cons, l2], fun q hq => ?_⟩
    rcases List.mem_cons.1 hq with rfl | hq
    · exact b1
    · exact b2 q hq
theorem pairs_back (hz : Octets zs) {m : Int} {l : List Pr} (h : dPairs zs m i = .ok (l, j)) : zs.drop i = encP l ++ zs.drop j ∧ ∀ p, p ∈ l → p.n ≤ 9223372036854775807 := by
  unfold dPairs at h
  obtain ⟨n, j1, e1, h⟩ := bnd_ok h
  obtain ⟨t1, n0, _⟩ := cnt_back hz e1
  obtain ⟨t2, l2, b2⟩ := pairsN_back hz n.toNat h
  refine ⟨?_, b2⟩
  unfold encP
  rw [t1, t2, l2, Int.toNat_of_nonneg n0, List.append_assoc]
theorem own_back (hz : Octets zs) {o : Ow} (h : dOwn zs i = .ok (o, j)) : zs.drop i = encO o ++ zs.drop j ∧ (∀ p, p ∈ o.r.l → p.n ≤ 9223372036854775807) ∧ o.r.ver ≤ 9223372036854775807 := by
  unfold dOwn at h
  obtain ⟨s, j1, e1, h⟩ := bnd_ok h
  obtain ⟨t1, _, _⟩ := num_back hz e1
  split at h
  · rename_i h0
    cases h
    subst h0
    refine ⟨?_, fun p hp => absurd hp (by unfold zeroO zeroR; simp), by show (0 : Int) ≤ _; omega⟩
    rw [t1]
    unfold encO
    rw [if_pos (show zeroO.s = 0 from rfl), List.append_nil]; rfl
  · rename_i h0
    obtain ⟨w, j2, e2, h⟩ := bnd_ok h
    obtain ⟨f, j3, e3, h⟩ := bnd_ok h
    obtain ⟨v, j4, e4, h⟩ := bnd_ok h
    obtain ⟨n, j5, e5, h⟩ := bnd_ok h
    obtain ⟨l, j6, e6, h⟩ := bnd_ok h
    cases h
    obtain ⟨t2, _, _⟩ := num_back hz e2
    obtain ⟨t5, _, b5⟩ := num_back hz e5
    obtain ⟨t6, b6⟩ := pairs_back hz e6
    refine ⟨?_, b6, b5⟩
    unfold encO
    rw [if_neg h0, t1, t2, flg_back hz e3, txt_back hz e4, t5, t6]
    simp only [List.append_assoc]
theorem owns_back (hz : Octets zs) : ∀ (n : Nat) {i j : Nat} {l : List Ow}, dOwns zs n i = .ok (l, j) → zs.drop i = l.flatMap encO ++ zs.drop j ∧ l.length = n ∧ ∀ o, o ∈ l → (∀ p, p ∈ o.r.l → p.n ≤ 9223372036854775807) ∧ o.r.ver ≤ 9223372036854775807
  | 0, i, j, l, h => by cases h; exact ⟨rfl, rfl, fun p hp => by cases hp⟩
  | n + 1, i, j, l, h => by
    unfold dOwns at h
    obtain ⟨o, j1, e1, h⟩ := bnd_ok h
    obtain ⟨r, j2, e2, h⟩ := bnd_ok h
    cases h
    obtain ⟨t1, b1⟩ := own_back hz e1
    obtain ⟨t2, l2, b2⟩ := owns_back hz n e2
    refine ⟨by rw [t1, t2, List.flatMap_cons, List.append_assoc], by rw [List.length_cons, l2], fun q hq => ?_⟩
    rcases List.mem_cons.1 hq with rfl | hq
    · exact b1
    · exact b2 q hq
end
/-- P13.5: what Get takes is Put of it. -/
theorem state_back {zs : List Int} (hz : Octets zs) {s : Sm} (h : decS zs = (s, 0)) : encS s = zs ∧ s.o.length = 8 ∧ Bd s ∧ rightSB s = true := by
  unfold decS at h
  split at h
  · rename_i e he
    have := nz_all zs e he
    injection h with _ h
    exact absurd h this
  · rename_i t j ht
    split at h
    · rename_i hr
      injection h with h _
      subst h
      unfold dAll at ht
      obtain ⟨l, j1, e1, ht⟩ := bnd_ok ht
      obtain ⟨o, j2, e2, ht⟩ := bnd_ok ht
      split at ht
      · cases ht
      · rename_i hj
        cases ht
        obtain ⟨t1, b1⟩ := pairs_back hz e1
        obtain ⟨t2, l2, b2⟩ := owns_back hz 8 e2
        refine ⟨?_, l2, ⟨b1, b2⟩, hr⟩
        unfold encS
        rw [if_pos hr]
        unfold encA
        have hn : zs.drop j = [] := List.drop_of_length_le (by omega)
        rw [List.drop_zero] at t1
        rw [hn, List.append_nil] at t2
        rw [t1, t2]
    · injection h with _ h
      cases h
end Go.Proofs.Ytahfpncfkcfogaa
/- A client's number acts once; reads change no pairs. No condition: nothing here speaks of a program. -/
namespace Go.Proofs.Ytahfpncfkcfogaa
open Go.RowKit
/-- What the client's number is. -/
theorem look_is {s : Sm} {c : Cm} (h8 : s.o.length = 8) (hr : rightC c = true) (hz : sameC c c_zeroC = false) : ∃ (k : Nat) (o : Ow), c.c = (k : Int) + 1 ∧ k < 8 ∧ s.o[k]? = some o ∧ lookO s.o c.c c.q = seenO o c.q := by
  obtain ⟨_, _, _, hc, _⟩ := rc_says hr hz
  obtain ⟨k, hk⟩ : ∃ k : Nat, c.c = (k : Int) + 1 := ⟨(c.c - 1).toNat, by omega⟩
  have hk8 : k < 8 := by omega
  obtain ⟨o, ho⟩ : ∃ o, s.o[k]? = some o := ⟨_, List.getElem?_eq_getElem (by omega)⟩
  refine ⟨k, o, hk, hk8, ho, ?_⟩
  unfold lookO
  rw [if_pos (cli_in hc), show (c.c - 1).toNat = k by omega, ho]; rfl
/-- Told again: nothing is done, and the same is answered. -/
theorem apply_again {s : Sm} (h8 : s.o.length = 8) (c : Cm) : (applyP (applyP s c).1 c).1 = (applyP s c).1 ∧ (rightC c = true → sameC c c_zeroC = false → (applyP s c).2.why ≠ 9 → (applyP (applyP s c).1 c).2 = (applyP s c).2) := by
  by_cases hz : sameC c c_zeroC = true
  · have e : ∀ t, applyP t c = (t, zeroR) := fun t => by unfold applyP; rw [if_pos hz]
    rw [e, e]; exact ⟨rfl, fun _ _ _ => rfl⟩
  have hz : sameC c c_zeroC = false := by simpa using hz
  by_cases hr : rightC c = false
  · have e : ∀ t, applyP t c = (t, errR 1) := fun t => by unfold applyP; rw [if_neg (by rw [hz]; simp), if_pos hr]
    rw [e, e]; exact ⟨rfl, fun _ _ _ => rfl⟩
  have hr : rightC c = true := by simpa using hr
  by_cases h2 : (lookO s.o c.c c.q).1 = 2
  · have e : applyP s c = (s, (lookO s.o c.c c.q).2) := by unfold applyP; rw [if_neg (by rw [hz]; simp), if_neg (by rw [hr]; simp), if_pos h2]
    rw [e]
    exact ⟨by rw [e], fun _ _ _ => by rw [e]⟩
  by_cases h3 : (lookO s.o c.c c.q).1 = 3
  · have e : applyP s c = (s, errR 9) := by unfold applyP; rw [if_neg (by rw [hz]; simp), if_neg (by rw [hr]; simp), if_neg h2, if_pos h3]
    rw [e]
    exact ⟨by rw [e], fun _ _ _ => by rw [e]⟩
  have e : applyP s c = (⟨(runP s.l c).1, noteO s.o c.c c.q (runP s.l c).2⟩, (runP s.l c).2) := by unfold applyP; rw [if_neg (by rw [hz]; simp), if_neg (by rw [hr]; simp), if_neg h2, if_neg h3]
  obtain ⟨_, _, _, hc, _⟩ := rc_says hr hz
  have hl : lookO (noteO s.o c.c c.q (runP s.l c).2) c.c c.q = (2, (runP s.l c).2) := by rw [look_self h8 hc, seen2]
  have e2 : applyP ⟨(runP s.l c).1, noteO s.o c.c c.q (runP s.l c).2⟩ c = (⟨(runP s.l c).1, noteO s.o c.c c.q (runP s.l c).2⟩, (runP s.l c).2) := by
    unfold applyP
    rw [if_neg (by rw [hz]; simp), if_neg (by rw [hr]; simp), if_pos (by rw [hl]), hl]
  rw [e]
  exact ⟨by rw [e2], fun _ _ _ => by rw [e2]⟩
/-- What runs is new, and is noted. -/
theorem apply_new {s : Sm} {c : Cm} (hr : rightC c = true) (hz : sameC c c_zeroC = false) {k : Nat} {o : Ow} (hk : c.c = (k : Int) + 1) (ho : s.o[k]? = some o) (hq : o.s < c.q) : applyP s c = (⟨(runP s.l c).1, s.o.set k ⟨c.q, (runP s.l c).2⟩⟩, (runP s.l c).2) := by
  obtain ⟨_, _, _, hc, _⟩ := rc_says hr hz
  have hl : lookO s.o c.c c.q = (1, zeroR) := by
    unfold lookO
    rw [if_pos (cli_in hc), show (c.c - 1).toNat = k by omega, ho]
    exact seen1 hq
  have hn : noteO s.o c.c c.q (runP s.l c).2 = s.o.set k ⟨c.q, (runP s.l c).2⟩ := by unfold noteO; rw [if_pos (cli_in hc), show (c.c - 1).toNat = k by omega]
  unfold applyP
  rw [if_neg (by rw [hz]; simp), if_neg (by rw [hr]; simp), hl, if_neg (by decide), if_neg (by decide), hn]
/-- What doesn't run leaves the state. -/
theorem apply_old {s : Sm} {c : Cm} {k : Nat} {o : Ow} (hk : c.c = (k : Int) + 1) (hk8 : k < 8) (ho : s.o[k]? = some o) (hq : ¬ o.s < c.q) : (applyP s c).1 = s := by
  have hl : lookO s.o c.c c.q = seenO o c.q := by
    unfold lookO
    rw [if_pos (cli_in (by omega)), show (c.c - 1).toNat = k by omega, ho]; rfl
  unfold applyP
  split
  · rfl
  split
  · rfl
  rw [hl]
  rcases Int.lt_trichotomy o.s c.q with h | h | h
  · exact absurd h hq
  · obtain ⟨s1, r1⟩ := o
    dsimp only at h
    subst h
    rw [seen2]; rfl
  · obtain ⟨s1, r1⟩ := o
    rw [seen3 h]
    rfl
/-- Reads change no pairs. -/
theorem run_reads {l : List Pr} {c : Cm} (h : writesC c.k = false) (h1 : 1 ≤ c.k) (h5 : c.k ≤ 5) : (runP l c).1 = l := by
  unfold writesC at h
  have : c.k = 1 ∨ c.k = 5 := by
    simp only [Bool.and_eq_false_iff, decide_eq_false_iff_not] at h
    omega
  unfold runP
  rcases this with e | e
  · rw [if_pos e]
  · rw [if_neg (by omega), if_neg (by omega), if_neg (by omega), if_neg (by omega)]
/-- Which numbers acted. -/
def Dn (l : List Ow) (D : List (Int × Int)) : Prop := ∀ p, p ∈ D → ∃ (k : Nat) (o : Ow), p.1 = (k : Int) + 1 ∧ l[k]? = some o ∧ p.2 ≤ o.s
theorem Dn.set {l : List Ow} {D : List (Int × Int)} (h : Dn l D) {k : Nat} {o : Ow} {q : Int} {r : Re} (ho : l[k]? = some o) (hq : o.s < q) : Dn (l.set k ⟨q, r⟩) D := fun p hp => by
  obtain ⟨k', o', e1, e2, e3⟩ := h p hp
  have hk : k < l.length := by
    rcases Nat.lt_or_ge k l.length with h1 | h1
    · exact h1
    · rw [List.getElem?_eq_none h1] at ho; cases ho
  by_cases hj : k = k'
  · subst hj
    rw [ho] at e2
    cases e2
    exact ⟨k, _, e1, List.getElem?_set_self hk, by show p.2 ≤ q; omega⟩
  · exact ⟨k', o', e1, by rw [List.getElem?_set_ne hj]; exact e2, e3⟩
/-- One step of the row of those that acted. -/
theorem apply_once {s : Sm} {D : List (Int × Int)} (h8 : s.o.length = 8) (hd : Dn s.o D) (c : Cm) : Dn (applyP s c).1.o D ∧ ((applyP s c).1.l ≠ s.l → (∀ p, p ∈ D → p ≠ (c.c, c.q)) ∧ Dn (applyP s c).1.o (D ++ [(c.c, c.q)]) ∧ writesC c.k = true) := by
  by_cases hz : sameC c c_zeroC = true
  · have e : applyP s c = (s, zeroR) := by unfold applyP; rw [if_pos hz]
    rw [e]; exact ⟨hd, fun h => absurd rfl h⟩
  have hz : sameC c c_zeroC = false := by simpa using hz
  by_cases hr : rightC c = false
  · have e : applyP s c = (s, errR 1) := by unfold applyP; rw [if_neg (by rw [hz]; simp), if_pos hr]
    rw [e]; exact ⟨hd, fun h => absurd rfl h⟩
  have hr : rightC c = true := by simpa using hr
  obtain ⟨k, o, hk, hk8, ho, _⟩ := look_is h8 hr hz
  by_cases hq : o.s < c.q
  · rw [apply_new hr hz hk ho hq]
    have hd2 := hd.set (r := (runP s.l c).2) ho hq
    refine ⟨hd2, fun hne => ⟨fun p hp e => ?_, fun p hp => ?_, ?_⟩⟩
    · obtain ⟨k', o', e1, e2, e3⟩ := hd p hp
      rw [e] at e1 e3
      dsimp only at e1 e3
      have : k' = k := by omega
      subst this
      rw [ho] at e2
      cases e2
      omega
    · rcases List.mem_append.1 hp with hp | hp
      · exact hd2 p hp
      · obtain rfl := List.mem_singleton.1 hp
        exact ⟨k, _, hk, List.getElem?_set_self (by omega), Int.le_refl _⟩
    · obtain ⟨k1, k5, _⟩ := rc_says hr hz
      cases hw : writesC c.k
      · exact absurd (run_reads hw k1 k5) hne
      · rfl
  · rw [apply_old hk hk8 ho hq]
    exact ⟨hd, fun h => absurd rfl h⟩
end Go.Proofs.Ytahfpncfkcfogaa
/- Commands of two clients that don't clash may be done in either order. No condition: nothing here speaks of a program. -/
namespace Go.Proofs.Ytahfpncfkcfogaa
open Go.RowKit
/-- Lists with rising keys are the same, if they have the same pairs. -/
theorem up_ext : ∀ {l m : List Pr}, Up l → Up m → (∀ p, p ∈ l ↔ p ∈ m) → l = m
  | [], [], _, _, _ => rfl
  | [], y :: m, _, _, h => absurd ((h y).2 (List.mem_cons_self ..)) (by simp)
  | x :: l, [], _, _, h => absurd ((h x).1 (List.mem_cons_self ..)) (by simp)
  | x :: l, y :: m, hl, hm, h => by
    have hl' := List.pairwise_cons.1 hl
    have hm' := List.pairwise_cons.1 hm
    have e : x = y := by
      rcases List.mem_cons.1 ((h x).1 (List.mem_cons_self ..)) with e | h1
      · exact e
      · rcases List.mem_cons.1 ((h y).2 (List.mem_cons_self ..)) with e | h2
        · exact e.symm
        · have := lt_trans (hm'.1 x h1) (hl'.1 y h2)
          rw [lt_self] at this; cases this
    subst e
    congr 1
    refine up_ext hl'.2 hm'.2 fun p => ⟨fun hp => ?_, fun hp => ?_⟩
    · rcases List.mem_cons.1 ((h p).1 (List.mem_cons_of_mem _ hp)) with e | h1
      · subst e
        have := hl'.1 p hp
        rw [lt_self] at this; cases this
      · exact h1
    · rcases List.mem_cons.1 ((h p).2 (List.mem_cons_of_mem _ hp)) with e | h1
      · subst e
        have := hm'.1 p hp
        rw [lt_self] at this; cases this
      · exact h1
theorem mem_put_iff {l : List Pr} (h : Up l) {key value : ByteArray} {q : Pr} : q ∈ putP l key value ↔ q = ⟨key, value, verP l key⟩ ∨ (q ∈ l ∧ q.k ≠ key) := by
  constructor
  · intro hq
    rcases mem_put2 h hq with e | hl
    · exact .inl e
    · by_cases hk : q.k = key
      · left
        have g1 := get_mem (h.put key value) hq
        have g2 := get_mem (h.put key value) (put_there (l := l) (key := key) (value := value))
        rw [hk] at g1
        exact g1.2.symm.trans g2.2
      · exact .inr ⟨hl, hk⟩
  · rintro (rfl | ⟨hl, hk⟩)
    · exact put_there
    · exact put_keeps h hl hk
theorem mem_del_iff {l : List Pr} (h : Up l) {key : ByteArray} {q : Pr} : q ∈ delP l key ↔ q ∈ l ∧ q.k ≠ key := by
  constructor
  · intro hq
    refine ⟨mem_del h hq, fun hk => ?_⟩
    cases hb : isB l key
    · exact not_mem h hb q (mem_del h hq) hk
    · obtain ⟨X, p, Y, e, hs, hp, _, hx, hy⟩ := there h hb
      rw [del_old hb e hs] at hq
      rcases List.mem_append.1 hq with hq | hq
      · have := hx q hq
        rw [hk, lt_self] at this; cases this
      · have := hy q hq
        rw [hk, lt_self] at this; cases this
  · rintro ⟨hl, hk⟩
    exact del_keeps h hl hk
/-- What a command makes of its key's pair: nothing; or it takes it out, or puts one in. -/
def actP (l : List Pr) (c : Cm) : Option (Option Pr) :=
  if c.k = 2 ∨ (c.k = 4 ∧ (isB l c.key && eqB (getP l c.key).v c.old) = true) then some (some ⟨c.key, c.val, verP l c.key⟩) else if c.k = 3 then some none else none
theorem mem_run {l : List Pr} (h : Up l) (hl : l.length ≤ 31) {c : Cm} {q : Pr} : q ∈ (runP l c).1 ↔ (match actP l c with | none => q ∈ l | some x => some q = x ∨ (q ∈ l ∧ q.k ≠ c.key)) := by
  have hf : fullB l c.key = false := by unfold fullB; rw [decide_eq_false (by omega)]; simp
  unfold runP actP
  by_cases e1 : c.k = 1
  · rw [if_pos e1, if_neg (by omega), if_neg (by omega)]
  rw [if_neg e1]
  by_cases e2 : c.k = 2
  · rw [if_pos e2, if_neg (by rw [hf]; simp), if_pos (.inl e2)]
    simpa using mem_put_iff h
  rw [if_neg e2]
  by_cases e3 : c.k = 3
  · rw [if_pos e3, if_neg (by omega), if_pos e3]
    simpa using mem_del_iff h
  rw [if_neg e3]
  by_cases e4 : c.k = 4
  · rw [if_pos e4]
    by_cases hb : (isB l c.key && eqB (getP l c.key).v c.old) = true
    · rw [if_pos hb, if_pos (.inr ⟨e4, hb⟩)]
      simpa using mem_put_iff h
    · rw [if_neg hb, if_neg (by rintro (h | ⟨_, h⟩); exact e2 h; exact hb h), if_neg e3]
  · rw [if_neg e4, if_neg (by rintro (h | ⟨h, _⟩); exact e2 h; exact e4 h), if_neg e3]
theorem up_run {l : List Pr} (h : Up l) (c : Cm) : Up (runP l c).1 := by
  unfold runP
  split
  · exact h
  split
  · split
    · exact h
    · exact h.put _ _
  split
  · exact h.del _
  split
  · split
    · exact h.put _ _
    · exact h
  · exact h
/-- Another key's pair stays. -/
theorem run_other {l : List Pr} (h : Up l) (hl : l.length ≤ 31) {c : Cm} {key : ByteArray} (hne : c.key ≠ key) : isB (runP l c).1 key = isB l key ∧ getP (runP l c).1 key = getP l key := by
  refine get_other h (up_run h c) (key := c.key) hne (fun q hq => ?_) (fun q hq hk => ?_)
  · have := (mem_run h hl).1 hq
    split at this
    · exact .inr this
    · rename_i x hx
      rcases this with e | ⟨h1, _⟩
      · left
        unfold actP at hx
        split at hx
        · cases hx
          cases e; rfl
        · split at hx
          · cases hx; cases e
          · cases hx
      · exact .inr h1
  · refine (mem_run h hl).2 ?_
    split
    · exact hq
    · exact .inr ⟨hq, hk⟩
theorem ver_other {l m : List Pr} {key : ByteArray} (h1 : isB m key = isB l key) (h2 : getP m key = getP l key) : verP m key = verP l key := by unfold verP; rw [h1, h2]
theorem act_other {l m : List Pr} {c : Cm} (h1 : isB m c.key = isB l c.key) (h2 : getP m c.key = getP l c.key) : actP m c = actP l c := by unfold actP; rw [h1, h2, ver_other h1 h2]
theorem act_key {l : List Pr} {c : Cm} {x : Option Pr} {q : Pr} (h : actP l c = some x) (e : some q = x) : q.k = c.key := by
  unfold actP at h
  split at h
  · cases h; cases e; rfl
  · split at h
    · cases h; cases e
    · cases h
/-- Two commands on two keys: the pairs are the same in either order. -/
theorem run_swap {l : List Pr} (h : Up l) (hl : l.length ≤ 30) {a b : Cm} (hne : a.key ≠ b.key) (la : (runP l a).1.length ≤ 31) (lb : (runP l b).1.length ≤ 31) : (runP (runP l a).1 b).1 = (runP (runP l b).1 a).1 := by
  refine up_ext (up_run (up_run h a) b) (up_run (up_run h b) a) fun q => ?_
  have oa := run_other h (by omega) (c := a) (key := b.key) hne
  have ob := run_other h (by omega) (c := b) (key := a.key) (Ne.symm hne)
  rw [mem_run (up_run h a) la, mem_run (up_run h b) lb, act_other oa.1 oa.2, act_other ob.1 ob.2, mem_run h (by omega), mem_run h (by omega)]
  cases ha : actP l a with
  | none => cases hb : actP l b <;> simp
  | some x =>
    cases hb : actP l b with
    | none => simp
    | some y =>
      have ka : some q = x → q.k = a.key := act_key ha
      have kb : some q = y → q.k = b.key := act_key hb
      dsimp only
      constructor
      · rintro (e | ⟨e | ⟨h1, h2⟩, h3⟩)
        · exact .inr ⟨.inl e, by rw [kb e]; exact Ne.symm hne⟩
        · exact .inl e
        · exact .inr ⟨.inr ⟨h1, h3⟩, h2⟩
      · rintro (e | ⟨e | ⟨h1, h2⟩, h3⟩)
        · exact .inr ⟨.inl e, by rw [ka e]; exact hne⟩
        · exact .inl e
        · exact .inr ⟨.inr ⟨h1, h3⟩, h2⟩
/-- A point's reply hangs on its key's pair alone. -/
theorem reply_point {l m : List Pr} {c : Cm} (h5 : c.k ≠ 5) (h1 : 1 ≤ c.k) (hk : c.k ≤ 5) (hl : l.length ≤ 31) (hm : m.length ≤ 31) (e1 : isB m c.key = isB l c.key) (e2 : getP m c.key = getP l c.key) : (runP m c).2 = (runP l c).2 := by
  have fl : fullB l c.key = false := by unfold fullB; rw [decide_eq_false (by omega)]; simp
  have fm : fullB m c.key = false := by unfold fullB; rw [decide_eq_false (by omega)]; simp
  unfold runP
  rw [fl, fm, e1, e2]
  by_cases k1 : c.k = 1
  · rw [if_pos k1, if_pos k1]
  rw [if_neg k1, if_neg k1]
  by_cases k2 : c.k = 2
  · rw [if_pos k2, if_pos k2]; rfl
  rw [if_neg k2, if_neg k2]
  by_cases k3 : c.k = 3
  · rw [if_pos k3, if_pos k3]
  rw [if_neg k3, if_neg k3]
  have k4 : c.k = 4 := by omega
  rw [if_pos k4, if_pos k4]
  split <;> rfl
theorem run_five (l : List Pr) {c : Cm} (h5 : c.k = 5) : (runP l c).2 = ⟨0, moreB l c.key c.en, nilT, 0, rngP l c.key c.en⟩ := by
  unfold runP
  rw [if_neg (show ¬ c.k = 1 by omega), if_neg (show ¬ c.k = 2 by omega), if_neg (show ¬ c.k = 3 by omega), if_neg (show ¬ c.k = 4 by omega)]
/-- A range's reply hangs on the pairs that it has. -/
theorem reply_range {l : List Pr} (h : Up l) (hl : l.length ≤ 31) {a c : Cm} (h5 : c.k = 5) (hn : hasB c.key c.en a.key = false) : (runP (runP l a).1 c).2 = (runP l c).2 := by
  have e : inP (runP l a).1 c.key c.en = inP l c.key c.en := by
    refine up_ext ((up_run h a).sublist List.filter_sublist) (h.sublist List.filter_sublist) fun q => ?_
    unfold inP
    rw [List.mem_filter, List.mem_filter, mem_run h hl]
    cases ha : actP l a with
    | none => rfl
    | some x =>
      dsimp only
      constructor
      · rintro ⟨e | ⟨h1, _⟩, h2⟩
        · rw [act_key ha e, hn] at h2; cases h2
        · exact ⟨h1, h2⟩
      · rintro ⟨h1, h2⟩
        exact ⟨.inr ⟨h1, fun hk => by rw [hk, hn] at h2; cases h2⟩, h2⟩
  rw [run_five _ h5, run_five _ h5]
  unfold rngP moreB
  rw [e]
/-- How long the pairs get. -/
theorem len_run {l : List Pr} (h : Up l) (c : Cm) : (runP l c).1.length ≤ l.length + 1 := by
  have hp : ∀ v, (putP l c.key v).length ≤ l.length + 1 := fun v => by
    cases hb : isB l c.key
    · have := (perm_new h (value := v) hb).length_eq
      rw [this, List.length_cons]; exact Nat.le_refl _
    · obtain ⟨X, p, Y, e, hs, hk, hg, _, _⟩ := there h hb
      rw [put_old hb e hs hg, e]
      simp
  unfold runP
  split
  · exact Nat.le_succ _
  split
  · split
    · exact Nat.le_succ _
    · exact hp _
  split
  · cases hb : isB l c.key
    · show (delP l c.key).length ≤ _
      rw [del_none hb]; exact Nat.le_succ _
    · obtain ⟨X, p, Y, e, hs, _, _, _, _⟩ := there h hb
      show (delP l c.key).length ≤ _
      rw [del_old hb e hs, e]; simp; omega
  split
  · split
    · exact hp _
    · exact Nat.le_succ _
  · exact Nat.le_succ _
/-- What not clashing says of two clients' commands. -/
theorem clash_says {a b : Cm} (ha1 : 1 ≤ a.k) (ha5 : a.k ≤ 5) (hb1 : 1 ≤ b.k) (hb5 : b.k ≤ 5) (h : clashC a b = false) : a.c ≠ b.c ∧ ((writesC a.k = false ∧ writesC b.k = false) ∨
    (a.k ≠ 5 ∧ b.k ≠ 5 ∧ a.key ≠ b.key) ∨ (a.k = 5 ∧ b.k ≠ 5 ∧ hasB a.key a.en b.key = false) ∨ (a.k ≠ 5 ∧ b.k = 5 ∧ hasB b.key b.en a.key = false)) := by
  have ca : hasC a.k = true := by unfold hasC; rw [decide_eq_true ha1, decide_eq_true ha5]; rfl
  have cb : hasC b.k = true := by unfold hasC; rw [decide_eq_true hb1, decide_eq_true hb5]; rfl
  unfold clashC loC hiC at h
  rw [ca, cb] at h
  simp only [Bool.true_and, if_true, Bool.or_eq_false_iff, beq_eq_false_iff_ne, Bool.and_eq_false_iff] at h
  obtain ⟨hc, hm⟩ := h
  refine ⟨hc, ?_⟩
  rcases hm with ⟨h1, h2⟩ | hm
  · exact .inl ⟨h1, h2⟩
  by_cases a5 : a.k = 5
  · by_cases b5 : b.k = 5
    · left
      rw [a5, b5]
      exact ⟨rfl, rfl⟩
    · rw [if_pos a5, if_neg b5, of_meet] at hm
      exact .inr (.inr (.inl ⟨a5, b5, hm⟩))
  · by_cases b5 : b.k = 5
    · rw [if_neg a5, if_pos b5, meet_swap, of_meet] at hm
      exact .inr (.inr (.inr ⟨a5, b5, hm⟩))
    · rw [if_neg a5, if_neg b5, point_meet] at hm
      exact .inr (.inl ⟨a5, b5, fun e => by rw [e, (eq_iff _ _).2 rfl] at hm; cases hm⟩)
end Go.Proofs.Ytahfpncfkcfogaa
/- P13.2's sentence on commands that don't clash, in plain words. No condition: nothing here speaks of a program. -/
namespace Go.Proofs.Ytahfpncfkcfogaa
open Go.RowKit
theorem writes_five {c : Cm} (h : c.k = 5) : writesC c.k = false := by rw [h]; rfl
theorem run_apart {l : List Pr} (h : Up l) (hl : l.length ≤ 30) {a b : Cm} (ha1 : 1 ≤ a.k) (ha5 : a.k ≤ 5) (hb1 : 1 ≤ b.k) (hb5 : b.k ≤ 5) (hc : clashC a b = false) :
    (runP (runP l a).1 b).1 = (runP (runP l b).1 a).1 ∧ (runP (runP l a).1 b).2 = (runP l b).2 ∧ (runP (runP l b).1 a).2 = (runP l a).2 := by
  have la := len_run h a
  have lb := len_run h b
  obtain ⟨_, hcase⟩ := clash_says ha1 ha5 hb1 hb5 hc
  rcases hcase with ⟨wa, wb⟩ | ⟨a5, b5, hne⟩ | ⟨a5, b5, hn⟩ | ⟨a5, b5, hn⟩
  · rw [run_reads (l := l) wa ha1 ha5, run_reads (l := l) wb hb1 hb5, run_reads (l := l) wa ha1 ha5]
    exact ⟨rfl, rfl, rfl⟩
  · have oa := run_other h (by omega) (c := a) (key := b.key) hne
    have ob := run_other h (by omega) (c := b) (key := a.key) (Ne.symm hne)
    exact ⟨run_swap h hl hne (by omega) (by omega), reply_point b5 hb1 hb5 (by omega) (by omega) oa.1 oa.2, reply_point a5 ha1 ha5 (by omega) (by omega) ob.1 ob.2⟩
  · rw [run_reads (l := l) (writes_five a5) ha1 ha5]
    exact ⟨(run_reads (writes_five a5) ha1 ha5).symm, rfl, reply_range h (by omega) a5 hn⟩
  · rw [run_reads (l := l) (writes_five b5) hb1 hb5]
    exact ⟨run_reads (writes_five b5) hb1 hb5, reply_range h (by omega) b5 hn, rfl⟩
/-- What isn't new is told by the owner alone. -/
theorem apply_told {s t : Sm} {c : Cm} (hr : rightC c = true) (hz : sameC c c_zeroC = false) (e : lookO t.o c.c c.q = lookO s.o c.c c.q) (hn : (lookO s.o c.c c.q).1 = 2 ∨ (lookO s.o c.c c.q).1 = 3) : applyP t c = (t, (applyP s c).2) := by
  have f : ∀ u : Sm, lookO u.o c.c c.q = lookO s.o c.c c.q → applyP u c = (u, if (lookO s.o c.c c.q).1 = 2 then (lookO s.o c.c c.q).2 else errR 9) := fun u hu => by
    unfold applyP
    rw [if_neg (by rw [hz]; simp), if_neg (by rw [hr]; simp), hu]
    by_cases h2 : (lookO s.o c.c c.q).1 = 2
    · rw [if_pos h2, if_pos h2]
    · have h3 : (lookO s.o c.c c.q).1 = 3 := hn.resolve_left h2
      rw [if_neg h2, if_pos h3, if_neg h2]
  rw [f t e, f s rfl]
theorem not_new {o : Ow} {q : Int} (h : ¬ o.s < q) : (seenO o q).1 = 2 ∨ (seenO o q).1 = 3 := by
  obtain ⟨s, r⟩ := o
  rcases Int.lt_trichotomy s q with h1 | h1 | h1
  · exact absurd h1 h
  · subst h1; rw [seen2]; exact .inl rfl
  · rw [seen3 h1]; exact .inr rfl
theorem not_zero {c : Cm} (h : c.k ≠ 0) : sameC c c_zeroC = false := by
  cases hs : sameC c c_zeroC
  · rfl
  · rw [sameC_iff] at hs
    rw [hs] at h
    exact absurd rfl h
/-- Two commands of two clients that don't clash: either order, the same state, the same replies. -/
theorem apply_apart {s : Sm} (hu : Up s.l) (hl : s.l.length ≤ 30) (h8 : s.o.length = 8) {a b : Cm} (ra : rightC a = true) (rb : rightC b = true) (ka : a.k ≠ 0) (kb : b.k ≠ 0) (hc : clashC a b = false) :
    (applyP (applyP s a).1 b).1 = (applyP (applyP s b).1 a).1 ∧ (applyP (applyP s a).1 b).2 = (applyP s b).2 ∧ (applyP (applyP s b).1 a).2 = (applyP s a).2 := by
  have za := not_zero ka
  have zb := not_zero kb
  obtain ⟨i, oa, ea, hi, hoa, la⟩ := look_is h8 ra za
  obtain ⟨j, ob, eb, hj, hob, lb⟩ := look_is h8 rb zb
  obtain ⟨a1, a5, _⟩ := rc_says ra za
  obtain ⟨b1, b5, _⟩ := rc_says rb zb
  obtain ⟨hne, _⟩ := clash_says a1 a5 b1 b5 hc
  have hij : i ≠ j := by omega
  by_cases na : oa.s < a.q
  · have Ea := apply_new ra za ea hoa na
    by_cases nb : ob.s < b.q
    · have Eb := apply_new rb zb eb hob nb
      rw [Ea, Eb]
      dsimp only
      have Eab := apply_new (s := ⟨(runP s.l a).1, s.o.set i ⟨a.q, (runP s.l a).2⟩⟩) rb zb eb (o := ob) (by show (s.o.set i _)[j]? = some ob; rw [List.getElem?_set_ne hij]; exact hob) nb
      have Eba := apply_new (s := ⟨(runP s.l b).1, s.o.set j ⟨b.q, (runP s.l b).2⟩⟩) ra za ea (o := oa) (by show (s.o.set j _)[i]? = some oa; rw [List.getElem?_set_ne (Ne.symm hij)]; exact hoa) na
      rw [Eab, Eba]
      obtain ⟨r1, r2, r3⟩ := run_apart hu hl a1 a5 b1 b5 hc
      dsimp only
      rw [r1, r2, r3, List.set_comm _ _ hij]
      exact ⟨rfl, rfl, rfl⟩
    · have hb := apply_old eb hj hob nb
      have Tb := apply_told (s := s) (t := (applyP s a).1) rb zb (by rw [Ea, lb]; unfold lookO; rw [if_pos (cli_in (by omega)), show (b.c - 1).toNat = j by omega]; show seenO (((s.o.set i _)[j]?).getD zeroO) b.q = seenO ob b.q; rw [List.getElem?_set_ne hij, hob]; rfl) (by rw [lb]; exact not_new nb)
      rw [hb, Tb]
      exact ⟨rfl, rfl, rfl⟩
  · have ha := apply_old ea hi hoa na
    have Ta := apply_told (s := s) (t := (applyP s b).1) ra za (by
      by_cases nb : ob.s < b.q
      · rw [apply_new rb zb eb hob nb, la]
        unfold lookO
        rw [if_pos (cli_in (by omega)), show (a.c - 1).toNat = i by omega]
        show seenO (((s.o.set j _)[i]?).getD zeroO) a.q = seenO oa a.q
        rw [List.getElem?_set_ne (Ne.symm hij), hoa]; rfl
      · rw [apply_old eb hj hob nb]) (by rw [la]; exact not_new na)
    rw [ha, Ta]
    exact ⟨rfl, rfl, rfl⟩
end Go.Proofs.Ytahfpncfkcfogaa
/- States behind commands: right, and their numbers small. No condition: nothing here speaks of a program. -/
namespace Go.Proofs.Ytahfpncfkcfogaa
open Go.RowKit
/-- No version that was told is above n. -/
def Bo (n : Int) (l : List Ow) : Prop := ∀ o, o ∈ l → o.r.ver ≤ n ∧ ∀ p, p ∈ o.r.l → p.n ≤ n
theorem Bo.mono {n m : Int} {l : List Ow} (h : Bo n l) (hm : n ≤ m) : Bo m l := fun o ho => ⟨Int.le_trans (h o ho).1 hm, fun p hp => Int.le_trans ((h o ho).2 p hp) hm⟩
theorem Bo.zero : Bo 0 zeroS.o := fun o h => by
  have e : ows zeroL = [zeroO, zeroO, zeroO, zeroO, zeroO, zeroO, zeroO, zeroO] := rfl
  have h' : o ∈ ows zeroL := h
  rw [e] at h'
  have : o = zeroO := by simpa using h'
  subst this
  exact ⟨Int.le_refl _, fun p hp => absurd hp (by unfold zeroO zeroR; simp)⟩
theorem run_low {n : Int} {l : List Pr} (hm : ∀ p, p ∈ l → mayB p = true ∧ p.n ≤ n) (h0 : 0 ≤ n) (hn : n ≤ 4611686018427387904) (c : Cm) : (runP l c).2.ver ≤ n + 1 ∧ ∀ p, p ∈ (runP l c).2.l → p.n ≤ n := by
  have g := get_says hm h0 c.key
  have hw : IntKind.i64.wrap ((getP l c.key).n + 1) ≤ n + 1 := by rw [IntKind.wrap_i64]; omega
  have hg : (getP l c.key).n ≤ n + 1 := by omega
  have hz : (0 : Int) ≤ n + 1 := by omega
  unfold runP
  split
  · exact ⟨hg, fun p hp => by cases hp⟩
  split
  · split
    · exact ⟨hz, fun p hp => by cases hp⟩
    · exact ⟨hw, fun p hp => by cases hp⟩
  split
  · exact ⟨hg, fun p hp => by cases hp⟩
  split
  · split
    · exact ⟨hw, fun p hp => by cases hp⟩
    · exact ⟨hg, fun p hp => by cases hp⟩
  · exact ⟨hz, fun p hp => (hm p (((List.take_sublist _ _).trans List.filter_sublist).mem hp)).2⟩
theorem apply_bo {n : Int} {s : Sm} (h : Rs n s) (hb : Bo n s.o) (h0 : 0 ≤ n) (hn : n ≤ 4611686018427387904) (c : Cm) : Bo (n + 1) (applyP s c).1.o := by
  have hs := hb.mono (show n ≤ n + 1 by omega)
  unfold applyP
  split
  · exact hs
  split
  · exact hs
  split
  · exact hs
  split
  · exact hs
  obtain ⟨r1, r2⟩ := run_low h.may h0 hn c
  intro o ho
  have ho : o ∈ noteO s.o c.c c.q (runP s.l c).2 := ho
  unfold noteO at ho
  split at ho
  · rcases List.mem_or_eq_of_mem_set ho with ho | rfl
    · exact hs o ho
    · exact ⟨r1, fun p hp => by have := r2 p hp; omega⟩
  · exact hs o ho
theorem play_bo : ∀ (cs : List Cm) {n : Int} {s : Sm}, Rs n s → Bo n s.o → 0 ≤ n → n + cs.length ≤ 4611686018427387904 → Bo (n + cs.length) (playP s cs).1.o
  | [], n, s, _, h, _, _ => h.mono (by simp)
  | c :: r, n, s, h, hb, h0, hn => by
    have hl : ((c :: r).length : Int) = (r.length : Int) + 1 := by simp
    have := play_bo r (apply_right h h0 (by omega) c) (apply_bo h hb h0 (by omega) c) (by omega) (by omega)
    exact this.mono (by omega)
theorem Rs.right {n : Int} {s : Sm} (h : Rs n s) : rightSB s = true := by
  unfold rightSB
  rw [right_of h.up (fun p hp => (h.may p hp).1) h.len, Bool.true_and, List.all_eq_true]
  exact h.own
theorem Rs.bd {n : Int} {s : Sm} (h : Rs n s) (hb : Bo n s.o) (hn : n ≤ 9223372036854775807) : Bd s := ⟨fun p hp => Int.le_trans (h.may p hp).2 hn, fun o ho => ⟨fun p hp => Int.le_trans ((hb o ho).2 p hp) hn, Int.le_trans (hb o ho).1 hn⟩⟩
/-- Get of Put of what commands made. -/
theorem play_there (cs : List Cm) (h : cs.length ≤ 1000) : decS (encS (playP zeroS cs).1) = ((playP zeroS cs).1, 0) := by
  have hr := play_right cs Rs.zero (by omega) (by omega)
  have hb := play_bo cs Rs.zero Bo.zero (by omega) (by omega)
  exact state_there hr.eight hr.right (hr.bd hb (by omega))
theorem playP_append : ∀ (a b : List Cm) (s : Sm), (playP s (a ++ b)).1 = (playP (playP s a).1 b).1 ∧ (playP s (a ++ b)).2 = (playP s a).2 ++ (playP (playP s a).1 b).2
  | [], b, s => ⟨rfl, rfl⟩
  | c :: a, b, s => by
    obtain ⟨h1, h2⟩ := playP_append a b (applyP s c).1
    refine ⟨h1, ?_⟩
    show (applyP s c).2 :: (playP (applyP s c).1 (a ++ b)).2 = _
    rw [h2]; rfl
theorem playP_len : ∀ (cs : List Cm) (s : Sm), (playP s cs).2.length = cs.length
  | [], _ => rfl
  | c :: r, s => by
    show ((applyP s c).2 :: (playP (applyP s c).1 r).2).length = _
    rw [List.length_cons, List.length_cons, playP_len r]
/-- The state's first byte is there. -/
theorem encA_pos (s : Sm) : 1 ≤ (encA s).length := by
  unfold encA encP
  rw [List.length_append, List.length_append]
  have := (num7_len (s.l.length : Int)).1
  omega
end Go.Proofs.Ytahfpncfkcfogaa
