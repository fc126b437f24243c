/- What an Add or an Anew leaves on a disk, whatever the changes that are left: behind any crash one of the two. No condition: nothing here speaks of a program. -/
import Derived.Test.YtkmcnhjfnjikaaaGreatDoorCub
namespace Go.Proofs.YtkmcnhjfnjikaaaGreatDoor
/-- A beginning of frames is frames, and behind them no frame. -/
theorem enc_cut : ∀ {M : List (List Int)}, Right M → ∀ i, ∃ j r, j ≤ M.length ∧ (enc M).take i = enc (M.take j) ++ r ∧ nxE r ≠ 0 ∧ ((enc M).length ≤ i → j = M.length)
  | [], _, i => ⟨0, [], Nat.le_refl _, by rw [enc_nil]; simp [enc_nil], nxE_nil, fun _ => rfl⟩
  | p :: M, h, i => by
    rw [enc_cons]
    by_cases hi : i < (frm p).length
    · refine ⟨0, (frm p).take i, Nat.zero_le _, ?_, nxE_cut (h p List.mem_cons_self).1 hi, fun h2 => ?_⟩
      · rw [List.take_append_of_le_length (by omega)]; rfl
      · rw [List.length_append] at h2; omega
    · obtain ⟨j, r, h1, h2, h3, h4⟩ := enc_cut (M := M) (fun q hq => h q (List.mem_cons_of_mem _ hq)) (i - (frm p).length)
      refine ⟨j + 1, r, by rw [List.length_cons]; omega, ?_, h3, fun h5 => ?_⟩
      · rw [List.take_append, List.take_of_length_le (by omega), h2, List.take_succ_cons, enc_cons, List.append_assoc]
      · rw [List.length_append] at h5
        rw [List.length_cons, h4 (by omega)]
/-- Bytes put behind a segment's, the power failing or not: what there is, behind a crash and, if all went well, at once. -/
theorem wr_arm {d : DS} {nm : ByteArray} {b : List Int} (hu : Up d.l) (hk : Kept d.l) (ho : d.off = false) (hl : 0 ≤ d.left) (hn : nameB nm = true) (ht : (total d.l : Int) + b.length ≤ d.q) :
    (wrE d nm b = 10 ∧ (wrS d nm b).l = d.l) ∨
    (wrE d nm b = 10 ∧ Up (wrS d nm b).l ∧ (∀ a, a ≠ nm → find a (wrS d nm b).l = find a d.l) ∧ find nm (wrS d nm b).l = some ⟨nm, datO (find nm d.l) ++ b, (datO (find nm d.l)).length⟩) ∨
    (wrE d nm b = 0 ∧ Up (wrS d nm b).l ∧ (∀ a, a ≠ nm → find a (wrS d nm b).l = find a d.l) ∧ find nm (wrS d nm b).l = some ⟨nm, datO (find nm d.l) ++ b, (datO (find nm d.l) ++ b).length⟩) := by
  have hkp : kepO (find nm d.l) = (datO (find nm d.l)).length := by
    cases hf : find nm d.l with
    | none => rfl
    | some x => exact hk nm x hf
  by_cases h0 : d.left = 0
  · left
    have e1 : appE d nm b = 10 := by
      unfold appE; rw [ho, hn]; simp only [Bool.false_eq_true, if_false, Bool.true_eq_false]
      rw [if_neg (by omega), if_pos h0]
    have e2 : (appS d nm b).l = d.l := by
      unfold appS; rw [ho, hn]; simp only [Bool.false_eq_true, if_false, Bool.true_eq_false]
      rw [if_neg (by omega), if_pos h0, spent_l]
    unfold wrE wrS
    rw [e1, if_pos (by decide), if_pos (by decide)]
    exact ⟨rfl, e2⟩
  · right
    have e1 : appE d nm b = 0 := by
      unfold appE; rw [ho, hn]; simp only [Bool.false_eq_true, if_false, Bool.true_eq_false]
      rw [if_neg (by omega), if_neg h0]
    have e2 : appS d nm b = { d with l := putF ⟨nm, datO (find nm d.l) ++ b, (datO (find nm d.l)).length⟩ d.l, left := d.left - 1 } := by
      unfold appS; rw [ho, hn]; simp only [Bool.false_eq_true, if_false, Bool.true_eq_false]
      rw [if_neg (by omega), if_neg h0, spent_eta d (by omega), hkp, ho]
    have hu2 : Up (putF ⟨nm, datO (find nm d.l) ++ b, (datO (find nm d.l)).length⟩ d.l) := up_putF hu
    have hf2 : ∀ a, find a (putF ⟨nm, datO (find nm d.l) ++ b, (datO (find nm d.l)).length⟩ d.l) = if a = nm then some ⟨nm, datO (find nm d.l) ++ b, (datO (find nm d.l)).length⟩ else find a d.l := fun a => find_putF _ a d.l hu
    unfold wrE wrS
    rw [e1, e2, if_neg (by decide), if_neg (by decide)]
    generalize putF ⟨nm, datO (find nm d.l) ++ b, (datO (find nm d.l)).length⟩ d.l = l2 at *
    have hfn : find nm l2 = some ⟨nm, datO (find nm d.l) ++ b, (datO (find nm d.l)).length⟩ := by rw [hf2, if_pos rfl]
    unfold synE synS
    dsimp only
    rw [ho, hfn]
    simp only [Bool.false_eq_true, if_false, Option.isNone_some]
    by_cases h1 : d.left - 1 = 0
    · left
      rw [if_pos h1, if_pos h1, spent_l]
      exact ⟨rfl, hu2, fun a ha => by show find a l2 = _; rw [hf2, if_neg ha], hfn⟩
    · right
      rw [if_neg h1, if_neg h1]
      refine ⟨rfl, up_putF hu2, fun a ha => ?_, ?_⟩
      · show find a (putF _ l2) = _
        rw [find_putF _ _ _ hu2, if_neg ha, hf2, if_neg ha]
      · show find nm (putF _ l2) = _
        rw [find_putF _ _ _ hu2, if_pos rfl]
theorem kept_put {l l' : List Fl} {nm : ByteArray} {D : List Int} (hk : Kept l) (ha : ∀ a, a ≠ nm → find a l' = find a l) (hn : find nm l' = some ⟨nm, D, D.length⟩) : Kept l' := fun a f hf => by
  by_cases e : a = nm
  · rw [e, hn] at hf; injection hf with hf; rw [← hf]
  · rw [ha a e] at hf; exact hk a f hf
/-- Behind a crash. -/
theorem wr_cra {d : DS} {nm : ByteArray} {b : List Int} (hu : Up d.l) (hk : Kept d.l) (ho : d.off = false) (hl : 0 ≤ d.left) (hn : nameB nm = true) (ht : (total d.l : Int) + b.length ≤ d.q) (ps : List Int) :
    (wrE d nm b = 10 ∧ (craS (wrS d nm b) ps).l = d.l) ∨
    (∃ i, (wrE d nm b = 10 ∨ wrE d nm b = 0 ∧ i = b.length) ∧ i ≤ b.length ∧ Up (craS (wrS d nm b) ps).l ∧ Kept (craS (wrS d nm b) ps).l ∧ (∀ a, a ≠ nm → find a (craS (wrS d nm b) ps).l = find a d.l) ∧ find nm (craS (wrS d nm b) ps).l = some ⟨nm, datO (find nm d.l) ++ b.take i, (datO (find nm d.l) ++ b.take i).length⟩) := by
  rcases wr_arm hu hk ho hl hn ht with ⟨h1, h2⟩ | ⟨h1, h2, h3, h4⟩ | ⟨h1, h2, h3, h4⟩
  · refine .inl ⟨h1, ?_⟩
    rw [cra_kept ps (by rw [h2]; exact hu) (by rw [h2]; exact hk), h2]
  · obtain ⟨h5, i, h6, h7⟩ := tears_one ps (l := (wrS d nm b).l) (nm := nm) (fun a f ha hf => by rw [h3 a ha] at hf; exact hk a f hf) h4
    have h8 : ∀ a, a ≠ nm → find a (craS (wrS d nm b) ps).l = find a d.l := fun a ha => (h5 a ha).trans (h3 a ha)
    exact .inr ⟨i, .inl h1, h6, up_tears ps 0 h2, kept_put hk h8 h7, h8, h7⟩
  · have hkk := kept_put hk h3 h4
    refine .inr ⟨b.length, .inr ⟨h1, rfl⟩, Nat.le_refl _, ?_⟩
    rw [cra_kept ps h2 hkk, List.take_length]
    exact ⟨h2, hkk, h3, h4⟩
theorem Gd.kept {d : DS} {G K : Nat} {F : Nat → List (List Int)} (h : Gd d G K F) : Kept d.l := fun a f hf => by
  obtain ⟨k, hk, e⟩ := h.only a (by rw [hf]; simp)
  have := h.has k hk.1 hk.2
  rw [← e, hf] at this
  injection this with this
  rw [this]
section
variable {d : DS} {K : Nat} {F : Nat → List (List Int)}
theorem Gd.two (h : Gd d 1 K F) (hK : K < 99) : find (segN 2 1) d.l = none := by
  cases hf : find (segN 2 1) d.l with
  | none => rfl
  | some x =>
    obtain ⟨k, hk, e⟩ := h.only (segN 2 1) (by rw [hf]; simp)
    exact absurd e.symm (seg12 (by omega))
theorem Gd.ku (h : Gd d 1 K F) (hK : 1 ≤ K ∧ K < 99) : Ku d.l K F [] := ⟨h.up, h.kept, fun a ha => .inl (h.only a ha), h.sg (by omega) hK, h.hd, fun x hx => by rw [h.two (by omega)] at hx; cases hx⟩
/-- More in the last segment, or in the next one: frames and a rest. -/
theorem Gd.torn (h : Gd d 1 K F) (hK : 1 ≤ K ∧ K < 98) {K' : Nat} (hK' : K' = K ∨ K' = K + 1) {new : List (List Int)} {r : List Int} (hr : Right new) (hn : nxE r ≠ 0) {l' : List Fl} (hu : Up l') (hk : Kept l') (ha : ∀ a, a ≠ segN 1 K' → find a l' = find a d.l)
    (hf : ∃ x, find (segN 1 K') l' = some x ∧ x.dt = datO (find (segN 1 K') d.l) ++ (enc new ++ r)) : Ku l' K' (updF F K' (segF F K K' ++ new)) r ∧ cat (updF F K' (segF F K K' ++ new)) K' = cat F K ++ new := by
  have hcat : cat (updF F K' (segF F K K' ++ new)) K' = cat F K ++ new := by
    rcases hK' with rfl | rfl
    · obtain ⟨j, rfl⟩ : ∃ j, K' = j + 1 := ⟨K' - 1, by omega⟩
      show cat (updF F (j + 1) _) j ++ updF F (j + 1) _ (j + 1) = (cat F j ++ F (j + 1)) ++ new
      rw [cat_updF (by omega), updF_same]
      unfold segF
      rw [if_pos (Nat.le_refl _), List.append_assoc]
    · show cat (updF F (K + 1) _) K ++ updF F (K + 1) _ (K + 1) = _
      rw [cat_updF (by omega), updF_same]
      unfold segF
      rw [if_neg (by omega), List.nil_append]
  have hne : ∀ k, 1 ≤ k → k ≠ K' → k < 100 → segN 1 k ≠ segN 1 K' := fun k h1 h2 h3 e => h2 (segN_inj (g := 1) (g' := 1) (by omega) ⟨h1, h3⟩ (by omega) (by omega) e).2
  have ho : Only l' K' := fun a hx => by
    by_cases e : a = segN 1 K'
    · exact .inl ⟨K', by omega, e⟩
    · rw [ha a e] at hx
      obtain ⟨k, hk, e2⟩ := h.only a hx
      exact .inl ⟨k, by omega, e2⟩
  refine ⟨⟨hu, hk, ho, ⟨by omega, fun k h1 h2 => ?_, ?_, ho.one (by omega), fun k h1 h2 => ?_, ?_, hn⟩, ?_, fun x hx => ?_⟩, hcat⟩
  · rw [ha _ (hne k h1 (by omega) (by omega)), updF_other _ _ (by omega)]
    exact ⟨_, h.has k h1 (by omega), rfl⟩
  · obtain ⟨x, hx, e⟩ := hf
    refine ⟨x, hx, ?_⟩
    rw [e, h.dat (by omega) hK (k := K') (by omega), updF_same, enc_append, List.append_assoc]
  · by_cases e : k = K'
    · subst e
      rw [updF_same]
      intro p hp
      rcases List.mem_append.1 hp with h3 | h3
      · unfold segF at h3
        split at h3
        · exact h.right k h1 (by assumption) p h3
        · cases h3
      · exact hr p h3
    · rw [updF_other _ _ e]; exact h.right k h1 (by omega)
  · by_cases e : 1 = K'
    · subst e
      rw [updF_same]
      unfold segF
      rw [if_pos hK.1]
      intro e2
      exact h.ne (List.append_eq_nil_iff.1 e2).1
    · rw [updF_other _ _ e]; exact h.ne
  · obtain ⟨m, t, h1, h2, h3⟩ := h.hd.head
    exact ⟨m, t ++ new, h1, by rw [hcat, h2]; rfl, by rw [List.length_append]; omega⟩
  · rw [ha _ (fun e => seg12 (k := K') (by omega) e.symm), h.two (by omega)] at hx
    cases hx
theorem tail_cat (h : F 1 ≠ []) (hK : 1 ≤ K) (M : List (List Int)) : (cat F K ++ M).tail = (cat F K).tail ++ M := by
  have hne := cat_ne h hK
  cases hc : cat F K with
  | nil => exact absurd hc hne
  | cons a r => rfl
/-- What is there behind an Add. -/
def Ra (was M : List (List Int)) (v : Int) (L : List (List Int)) : Prop := ∃ j, j ≤ M.length ∧ (v = 0 → j = M.length) ∧ L = was ++ M.take j
theorem Gd.cutAdd (h : Gd d 1 K F) (hK : 1 ≤ K ∧ K ≤ 19) {M : List (List Int)} (hm : mayB M = true) (ho : ∀ p, p ∈ M → Octets p) (ht : (total d.l : Int) + (enc M).length ≤ d.q) (n : Int) (hn : 0 ≤ n) :
    Iq (Ra (cat F K).tail M (adE (armS d n) ⟨1, K, false⟩ M)) (adS (armS d n) ⟨1, K, false⟩ M) := by
  have hR : adR ⟨1, K, false⟩ M = 0 := adR_ok (Nat.le_refl _) hm
  have hl : (armS d n).left = n := by unfold armS; dsimp only; omega
  have hku := h.ku ⟨hK.1, by omega⟩
  by_cases hne : M = []
  · obtain ⟨e1, e2, _⟩ := adE_none (d := armS d n) hR hne
    rw [e1, e2]
    refine Pq.kept ⟨K, by omega, .inl ⟨F, [], hku, 0, Nat.zero_le _, fun _ => ?_, by simp⟩⟩
    rw [hne]; rfl
  · obtain ⟨e1, e2, _⟩ := adE_some (d := armS d n) hR hne
    dsimp only at e1 e2
    have hnx : nextK (armS d n) ⟨1, K, false⟩ = nextK d ⟨1, K, false⟩ := rfl
    have hn2 := h.next (by omega)
    obtain ⟨K', hK'⟩ : ∃ K', nextK d ⟨1, K, false⟩ = K' := ⟨_, rfl⟩
    rw [hnx, hK'] at e1 e2
    rw [hK'] at hn2
    have hkk : K' = K ∨ K' = K + 1 := by rw [hn2]; split; exact .inr rfl; exact .inl rfl
    rw [e1, e2]
    have hr := right_of hm ho
    intro ps
    rcases wr_cra (d := armS d n) (nm := segN 1 K') (b := enc M) h.up h.kept h.off (by omega) (segN_name (by omega) (by omega)) ht ps with ⟨h1, h2⟩ | ⟨i, h1, h2, h3, h4, h5, h6⟩
    · rw [h1]
      exact ⟨K, by omega, .inl ⟨F, [], by rw [h2]; exact hku, 0, Nat.zero_le _, fun h => absurd h (by decide), by simp⟩⟩
    · obtain ⟨j, r, g1, g2, g3, g4⟩ := enc_cut hr i
      obtain ⟨t1, t2⟩ := h.torn (by omega) hkk (fun p hp => hr p (List.mem_of_mem_take hp)) g3 h3 h4 h5 ⟨_, h6, by rw [← g2]; rfl⟩
      refine ⟨K', by omega, .inl ⟨_, r, t1, j, g1, fun hv => ?_, ?_⟩⟩
      · rcases h1 with h1 | ⟨_, h1⟩
        · rw [h1] at hv; exact absurd hv (by decide)
        · exact g4 (by omega)
      · rw [t2, tail_cat h.ne hK.1]
theorem dropL_mem {l : List Fl} {g : Nat} {s : ByteArray} : ∀ {f k : Nat}, s ∈ dropL l g f k → ∃ j, k ≤ j ∧ j < k + f ∧ s = segN g j
  | 0, k, h => by cases h
  | f + 1, k, h => by
    unfold dropL at h
    split at h
    · rcases List.mem_cons.1 h with e | h
      · exact ⟨k, Nat.le_refl _, by omega, e⟩
      · obtain ⟨j, h1, h2, h3⟩ := dropL_mem h
        exact ⟨j, by omega, by omega, h3⟩
    · cases h
theorem frs_whole {M : List (List Int)} (hr : Right (anF M)) (hM : M.length ≤ 1000000) {i : Nat} (h : wholeG (Gs.zero.more 1 ((enc (anF M)).take i)) = true) : (enc (anF M)).take i = enc (anF M) := by
  obtain ⟨j, r, g1, g2, g3, g4⟩ := enc_cut hr i
  have hL : (Gs.zero.more 1 ((enc (anF M)).take i)).L = (anF M).take j := by
    unfold Gs.more
    dsimp only
    rw [g2, (frs_enc (fun p hp => hr p (List.mem_of_mem_take hp)) g3).1]
    rfl
  unfold wholeG at h
  rw [hL] at h
  have hj : j = M.length + 1 := by
    cases j with
    | zero => simp at h
    | succ j =>
      unfold anF at h g1
      rw [List.take_succ_cons] at h
      dsimp only at h
      rw [enough_num hM] at h
      rw [List.length_cons] at g1
      simp only [decide_eq_true_eq, List.length_take] at h
      omega
  have hall : (anF M).take j = anF M := List.take_of_length_le (by unfold anF; rw [List.length_cons]; omega)
  rw [hall] at g2
  have hlen := congrArg List.length g2
  rw [List.length_take, List.length_append] at hlen
  obtain rfl : r = [] := List.eq_nil_of_length_eq_zero (by omega)
  rw [g2, List.append_nil]
/-- What is there behind an Anew. -/
def Rn (was M : List (List Int)) (v : Int) (L : List (List Int)) : Prop := v ≠ 0 ∧ L = was ∨ L = M
theorem Gd.cutAnew (h : Gd d 1 K F) (hK : 1 ≤ K ∧ K ≤ 19) {M : List (List Int)} (hm : mayB M = true) (ho : ∀ p, p ∈ M → Octets p) (hM : M.length ≤ 1000000) (ht : (total d.l : Int) + (enc (anF M)).length ≤ d.q) (n : Int) (hn : 0 ≤ n) :
    Iq (Rn (cat F K).tail M (anE (armS d n) ⟨1, K, false⟩ M)) (anS (armS d n) ⟨1, K, false⟩ M) := by
  have hR : anR ⟨1, K, false⟩ M = 0 := by
    unfold anR
    rw [if_neg (by simp), if_neg (by rw [hm]; simp), if_neg (show ¬ (1 : Nat) = most by unfold most; omega)]
  have hl : (armS d n).left = n := by unfold armS; dsimp only; omega
  have hku := h.ku ⟨hK.1, by omega⟩
  have htwo := h.two (by omega)
  have hr := right_anF hm ho
  have hd0 : datO (find (segN 2 1) (armS d n).l) = [] := by show datO (find (segN 2 1) d.l) = []; rw [htwo]; rfl
  have ht2 : (total (armS d n).l : Int) + (anB M).length ≤ (armS d n).q := by rw [anB_enc]; exact ht
  have honly : ∀ l' : List Fl, (∀ a, a ≠ segN 2 1 → find a l' = find a d.l) → Only l' K := fun l' ha a hx => by
    by_cases e : a = segN 2 1
    · exact .inr e
    · rw [ha a e] at hx
      exact .inl (h.only a hx)
  by_cases hw : wrE (armS d n) (segN 2 1) (anB M) = 0
  · obtain ⟨_, e2, _⟩ := anE_ok (d := armS d n) (x := ⟨1, K, false⟩) hR hw
    rw [e2]
    rcases wr_arm (d := armS d n) (nm := segN 2 1) (b := anB M) h.up h.kept h.off (by omega) (segN_name (by omega) (by omega)) ht2 with ⟨h1, _⟩ | ⟨h1, _⟩ | ⟨h1, h2, h3, h4⟩
    · rw [hw] at h1; exact absurd h1 (by decide)
    · rw [hw] at h1; exact absurd h1 (by decide)
    · rw [hd0, List.nil_append, anB_enc] at h4
      have hkk := kept_put h.kept h3 h4
      have hrl := fun a => remL_find a (anO (armS d n) ⟨1, K, false⟩ M) (wrS (armS d n) (segN 2 1) (anB M))
      have hlen : d.l.length ≤ K := few_files (G := 1) (by omega) (by omega) h.up h.only
      have hin : segN 2 1 ∉ anO (armS d n) ⟨1, K, false⟩ M := fun hm2 => by
        unfold anO at hm2
        rw [if_neg (show ¬ (1 : Nat) = 0 by decide)] at hm2
        obtain ⟨j, j1, j2, e⟩ := dropL_mem hm2
        have : (armS d n).l.length = d.l.length := rfl
        exact seg12 (k := j) ⟨j1, by omega⟩ e.symm
      refine Pq.kept ⟨K, by omega, .inr ⟨M, ⟨(hrl (segN 2 1)).1 h2, fun a f hf => ?_, fun a hx => ?_, ?_, hr, hM⟩, .inr rfl⟩⟩
      · rcases (hrl a).2 with e | ⟨_, e⟩
        · exact hkk a f (by rw [← e]; exact hf)
        · rw [show (anD (armS d n) ⟨1, K, false⟩ M).2 = (remL (anO (armS d n) ⟨1, K, false⟩ M) (wrS (armS d n) (segN 2 1) (anB M))).2 from rfl, e] at hf; cases hf
      · rcases (hrl a).2 with e | ⟨_, e⟩
        · exact honly _ h3 a (by rw [← e]; exact hx)
        · exact absurd e hx
      · rcases (hrl (segN 2 1)).2 with e | ⟨m, _⟩
        · exact ⟨_, e.trans h4, rfl⟩
        · exact absurd m hin
  · obtain ⟨e1, e2, _⟩ := anE_err (d := armS d n) (x := ⟨1, K, false⟩) hR hw
    rw [e1, e2]
    intro ps
    rcases wr_cra (d := armS d n) (nm := segN 2 1) (b := anB M) h.up h.kept h.off (by omega) (segN_name (by omega) (by omega)) ht2 ps with ⟨h1, h2⟩ | ⟨i, h1, h2, h3, h4, h5, h6⟩
    · exact ⟨K, by omega, .inl ⟨F, [], by show Ku (craS (wrS (armS d n) (segN 2 1) (anB M)) ps).l K F []; rw [h2]; exact hku, .inl ⟨hw, rfl⟩⟩⟩
    · rw [hd0, List.nil_append, anB_enc] at h6
      by_cases hwh : wholeG (Gs.zero.more 1 ((enc (anF M)).take i)) = true
      · rw [frs_whole hr hM hwh] at h6
        exact ⟨K, by omega, .inr ⟨M, ⟨h3, h4, honly _ h5, ⟨_, h6, rfl⟩, hr, hM⟩, .inr rfl⟩⟩
      · refine ⟨K, by omega, .inl ⟨F, [], ⟨h3, h4, honly _ h5, ?_, h.hd, fun x hx => ?_⟩, .inl ⟨hw, rfl⟩⟩⟩
        · have hs : ∀ k, 1 ≤ k → k < 100 → find (segN 1 k) (craS (wrS (armS d n) (segN 2 1) (anB M)) ps).l = find (segN 1 k) d.l := fun k k1 k2 => h5 _ (seg12 ⟨k1, k2⟩)
          have q := hku.sg
          exact ⟨q.k1, fun k k1 k2 => by rw [hs k k1 (by omega)]; exact q.full k k1 k2, by rw [hs K hK.1 (by omega)]; exact q.last, by rw [hs (K + 1) (by omega) (by omega)]; exact q.none, q.right, q.ne, q.fin⟩
        · have : find (segN 2 1) (craS (wrS (armS d n) (segN 2 1) (anB M)) ps).l = some x := hx
          rw [anB_enc, h6] at this
          injection this with this
          rw [← this]
          simpa using hwh
end
end Go.Proofs.YtkmcnhjfnjikaaaGreatDoor
