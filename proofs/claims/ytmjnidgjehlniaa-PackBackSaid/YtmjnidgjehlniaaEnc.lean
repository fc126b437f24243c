/- Things written one behind the other, and read again, whole or cut off: plain words. No condition. -/
import Derived.Test.YtmjnidgjehlniaaPuts
import Derived.Test.YtmjnidgjehlniaaWithin
namespace Go.Proofs.Ytmjnidgjehlniaa
open Go.RowKit
/-- At most a hundred bytes of it. -/
def cutS (s : ByteArray) : ByteArray := if 100 < s.size then s.extract 0 100 else s
theorem cutS_le (s : ByteArray) : (cutS s).size ≤ 100 := by
  unfold cutS; split
  · rw [ByteArray.size_extract]; omega
  · omega
/-- An item's bytes. -/
def itemB (x : It) : List Int := itB (withinI x.k 1 3) x.n (cutS x.s) x.f
theorem itemB_le (x : It) : (itemB x).length ≤ 110 := by
  have h1 := itB_len (withinI x.k 1 3) x.n (cutS x.s) x.f
  have h2 := cutS_le x.s
  unfold itemB; omega
/-- So many items' bytes. -/
def enc (it : Nat → It) : Nat → List Int
  | 0 => []
  | k + 1 => enc it k ++ itemB (it k)
theorem enc_succ (it : Nat → It) (k : Nat) : enc it (k + 1) = enc it k ++ itemB (it k) := rfl
theorem enc_le (it : Nat → It) : ∀ k, (enc it k).length ≤ 110 * k
  | 0 => by simp [enc]
  | k + 1 => by rw [enc_succ, List.length_append]; have h1 := enc_le it k; have h2 := itemB_le (it k); omega
theorem octets_append {zs ys : List Int} (h : Octets zs) (g : Octets ys) : Octets (zs ++ ys) := fun z hz => by
  rcases List.mem_append.1 hz with hz | hz
  · exact h z hz
  · exact g z hz
theorem octets_itB (k n : Int) (s : ByteArray) (f : Bool) : Octets (itB k n s f) := by
  unfold itB
  split
  · exact octets_num7 n
  · split
    · exact octets_append (octets_num7 _) (octets_strL s)
    · split
      · intro z hz
        unfold flag7 at hz
        rw [List.mem_singleton] at hz
        subst hz
        split <;> omega
      · intro z hz; cases hz
theorem octets_enc (it : Nat → It) : ∀ k, Octets (enc it k)
  | 0 => fun z hz => by cases hz
  | k + 1 => by rw [enc_succ]; exact octets_append (octets_enc it k) (octets_itB _ _ _ _)
theorem enc_split (it : Nat → It) (k : Nat) : ∀ K, k ≤ K → ∃ R, enc it K = enc it k ++ R
  | 0, h => ⟨[], by obtain rfl : k = 0 := by omega
                    rfl⟩
  | K + 1, h => by
    by_cases he : k = K + 1
    · exact ⟨[], by rw [he, List.append_nil]⟩
    · obtain ⟨R, hR⟩ := enc_split it k K (by omega)
      exact ⟨R ++ itemB (it K), by rw [enc_succ, hR, List.append_assoc]⟩
theorem prefix_rest {zs P Q : List Int} (h : zs <+: P ++ Q) (hl : P.length ≤ zs.length) : zs.drop P.length <+: Q := by
  obtain ⟨t, ht⟩ := h
  refine ⟨t, ?_⟩
  have := congrArg (List.drop P.length) ht
  rwa [List.drop_append_of_le_length hl, List.drop_left] at this
theorem prefix_cases {D B R : List Int} (h : D <+: B ++ R) : (∃ D', D = B ++ D') ∨ (D = B.take D.length ∧ D.length < B.length) := by
  by_cases hl : B.length ≤ D.length
  · obtain ⟨t, ht⟩ := List.prefix_of_prefix_length_le (List.prefix_append B R) h hl
    exact .inl ⟨t, ht.symm⟩
  · exact .inr ⟨List.prefix_iff_eq_take.1 (List.prefix_of_prefix_length_le h (List.prefix_append B R) (by omega)), by omega⟩
/-- Behind k things: all as it was written; or the bytes were cut off, and that is said. -/
def Inv (zs : List Int) (it : Nat → It) (K k : Nat) (ok : Bool) (i : Nat) (e : Int) : Prop :=
  (e = 0 ∧ ok = true ∧ i = (enc it k).length ∧ i ≤ zs.length) ∨ (e = 3 ∧ zs.length < (enc it K).length)
section
variable {zs ms : List Int} {it : Nat → It} {K k i : Nat} {e : Int}
theorem Inv.start : Inv zs it K 0 true 0 0 := .inl ⟨rfl, rfl, rfl, by omega⟩
/-- What is there to be read. -/
theorem here_or_cut (hz : zs <+: enc it K ++ ms) (hk : k < K) (hl : (enc it k).length ≤ zs.length) :
    (∃ D', zs.drop (enc it k).length = itemB (it k) ++ D' ∧ (enc it (k + 1)).length ≤ zs.length) ∨
    (∃ j, zs.drop (enc it k).length = (itemB (it k)).take j ∧ j < (itemB (it k)).length ∧ zs.length < (enc it K).length) := by
  obtain ⟨R, hR⟩ := enc_split it (k + 1) K hk
  have h1 : zs <+: enc it k ++ (itemB (it k) ++ (R ++ ms)) := by
    rw [hR, enc_succ] at hz
    simpa [List.append_assoc] using hz
  have h2 := prefix_rest h1 hl
  have hlen : (zs.drop (enc it k).length).length = zs.length - (enc it k).length := List.length_drop ..
  have hK : (enc it K).length = (enc it k).length + (itemB (it k)).length + R.length := by rw [hR, enc_succ, List.length_append, List.length_append]
  rcases prefix_cases h2 with ⟨D', hD⟩ | ⟨hD, hlt⟩
  · left
    refine ⟨D', hD, ?_⟩
    rw [hD, List.length_append] at hlen
    rw [enc_succ, List.length_append]; omega
  · right
    exact ⟨_, hD, hlt, by omega⟩
theorem num_next (hz : zs <+: enc it K ++ ms) (hk : k < K) (h : Inv zs it K k true i e) (h1 : withinI (it k).k 1 3 = 1) (b0 : -9223372036854775808 ≤ (it k).n) (b1 : (it k).n ≤ 9223372036854775807) :
    Inv zs it K (k + 1) (rNumV zs i e == (it k).n) (rNumA zs i e) (rNumE zs i e) := by
  have hB : itemB (it k) = num7 (it k).n := by unfold itemB itB; rw [h1, if_pos (.inl rfl)]
  rcases h with ⟨rfl, _, rfl, hl⟩ | ⟨rfl, hl⟩
  · rcases here_or_cut hz hk hl with ⟨D', hD, hn⟩ | ⟨j, hD, hj, hn⟩
    · rw [hB] at hD
      obtain ⟨e1, e2, e3⟩ := rd_num7 (it k).n D' b0 b1
      have ee : rNumE zs (enc it k).length 0 = 0 := by unfold rNumE; rw [if_pos rfl, hD, e3]
      have ev : rNumV zs (enc it k).length 0 = (it k).n := by unfold rNumV; rw [ee, if_pos rfl, hD, e1]
      have ea : rNumA zs (enc it k).length 0 = (enc it (k + 1)).length := by unfold rNumA; rw [ee, if_pos rfl, hD, e2, enc_succ, List.length_append, hB]
      exact .inl ⟨ee, by rw [ev]; simp, ea, by rw [ea]; exact hn⟩
    · rw [hB] at hD hj
      exact .inr ⟨by unfold rNumE; rw [if_pos rfl, hD, rd_cut _ _ hj], hn⟩
  · exact .inr ⟨by unfold rNumE; rw [if_neg (by decide)], hl⟩
theorem text_next (hz : zs <+: enc it K ++ ms) (hk : k < K) (h : Inv zs it K k true i e) (h1 : withinI (it k).k 1 3 = 2) (ok : Bool) (hok : strOf (rTxtV zs i e 100) = cutS (it k).s → ok = true) :
    Inv zs it K (k + 1) ok (rTxtA zs i e 100) (rTxtE zs i e 100) := by
  have hB : itemB (it k) = text7 (cutS (it k).s) := by unfold itemB itB; rw [h1, if_neg (by decide), if_pos rfl]
  have hc := cutS_le (it k).s
  generalize cutS (it k).s = s at *
  rcases h with ⟨rfl, _, rfl, hl⟩ | ⟨rfl, hl⟩
  · rcases here_or_cut hz hk hl with ⟨D', hD, hn⟩ | ⟨j, hD, hj, hn⟩
    · rw [hB] at hD
      unfold text7 at hD
      rw [List.append_assoc] at hD
      obtain ⟨e1, e2, e3⟩ := rd_num7 (s.size : Int) (strL s ++ D') (by omega) (by omega)
      have ec : cntE (zs.drop (enc it k).length) 100 = 0 := by unfold cntE; rw [hD, e3, if_pos rfl, e1, if_neg (by omega)]
      have et : txtE (zs.drop (enc it k).length) 100 = 0 := by
        unfold txtE
        rw [ec, if_pos rfl, hD, e1, e2, List.length_append, List.length_append, length_strL, if_neg (by omega)]
      have ee : rTxtE zs (enc it k).length 0 100 = 0 := by unfold rTxtE; rw [if_pos rfl, et]
      have ev : rTxtV zs (enc it k).length 0 100 = strL s := by
        unfold rTxtV
        rw [ee, if_pos rfl, hD, e1, e2, List.drop_left, Int.toNat_natCast, ← length_strL, List.take_left]
      have ea : rTxtA zs (enc it k).length 0 100 = (enc it (k + 1)).length := by
        unfold rTxtA
        rw [ee, if_pos rfl, hD, e1, e2, enc_succ, List.length_append, hB, text7_len, Int.toNat_natCast, Nat.add_assoc]
      exact .inl ⟨ee, hok (by rw [ev, str_strL]), ea, by rw [ea]; exact hn⟩
    · refine .inr ⟨?_, hn⟩
      rw [hB] at hD hj
      have htl := text7_len s
      unfold text7 at hD
      rw [List.take_append] at hD
      by_cases hjl : j < (num7 (s.size : Int)).length
      · have h0 : j - (num7 (s.size : Int)).length = 0 := by omega
        rw [h0, List.take_zero, List.append_nil] at hD
        have er : rdE (zs.drop (enc it k).length) = 3 := by rw [hD]; exact rd_cut _ _ hjl
        have ec : cntE (zs.drop (enc it k).length) 100 = 3 := by unfold cntE; rw [if_neg (by omega), er]
        unfold rTxtE txtE
        rw [if_pos rfl, if_neg (by omega), ec]
      · rw [List.take_of_length_le (by omega)] at hD
        obtain ⟨e1, e2, e3⟩ := rd_num7 (s.size : Int) ((strL s).take (j - (num7 (s.size : Int)).length)) (by omega) (by omega)
        have hle : ((strL s).take (j - (num7 (s.size : Int)).length)).length = j - (num7 (s.size : Int)).length := by rw [List.length_take, length_strL]; omega
        have hdl : (zs.drop (enc it k).length).length = (num7 (s.size : Int)).length + (j - (num7 (s.size : Int)).length) := by rw [hD, List.length_append, hle]
        rw [← hD] at e1 e2 e3
        have ec : cntE (zs.drop (enc it k).length) 100 = 0 := by unfold cntE; rw [if_pos e3, e1, if_neg (by omega)]
        unfold rTxtE txtE
        rw [if_pos rfl, if_pos ec, hdl, e1, e2, if_pos (by omega)]
  · exact .inr ⟨by unfold rTxtE; rw [if_neg (by decide)], hl⟩
theorem flag_next (hz : zs <+: enc it K ++ ms) (hk : k < K) (h : Inv zs it K k true i e) (h1 : withinI (it k).k 1 3 = 3) :
    Inv zs it K (k + 1) (rFlgV zs i e == (it k).f) (rFlgA zs i e) (rFlgE zs i e) := by
  have hB : itemB (it k) = flag7 (it k).f := by unfold itemB itB; rw [h1, if_neg (by decide), if_neg (by decide), if_pos rfl]
  rcases h with ⟨rfl, _, rfl, hl⟩ | ⟨rfl, hl⟩
  · rcases here_or_cut hz hk hl with ⟨D', hD, hn⟩ | ⟨j, hD, hj, hn⟩
    · rw [hB] at hD
      unfold flag7 at hD
      have hlt : (enc it k).length < zs.length := by
        have := congrArg List.length hD
        rw [List.length_drop, List.length_append] at this
        simp at this
        omega
      have hix : ix zs (enc it k).length = if (it k).f then 1 else 0 := by
        rw [drop_ix hlt, List.singleton_append] at hD
        injection hD
      have ee : rFlgE zs (enc it k).length 0 = 0 := by
        unfold rFlgE; rw [if_pos rfl, if_pos hlt, hix, if_neg (by split <;> omega)]
      have ev : rFlgV zs (enc it k).length 0 = (it k).f := by
        unfold rFlgV; rw [ee, hix]; cases (it k).f <;> decide
      have ea : rFlgA zs (enc it k).length 0 = (enc it (k + 1)).length := by
        unfold rFlgA; rw [ee, if_pos rfl, enc_succ, List.length_append, hB]; rfl
      exact .inl ⟨ee, by rw [ev]; simp, ea, by rw [ea]; exact hn⟩
    · refine .inr ⟨?_, hn⟩
      rw [hB] at hD hj
      have hj0 : j = 0 := by unfold flag7 at hj; simp at hj; exact hj
      rw [hj0, List.take_zero] at hD
      have hlt : ¬ (enc it k).length < zs.length := by
        have := congrArg List.length hD
        rw [List.length_drop] at this
        simp at this
        omega
      unfold rFlgE; rw [if_pos rfl, if_neg hlt]
  · exact .inr ⟨by unfold rFlgE; rw [if_neg (by decide)], hl⟩
end
end Go.Proofs.Ytmjnidgjehlniaa
