/- A disk that has nothing but one generation, all of it kept: what Open, Add and Anew make of it. No condition: nothing here speaks of a program. -/
import Derived.Test.YtkmcnhjfnjikaaaGreatDoorWgd
import Derived.Test.YtkmcnhjfnjikaaaGreatDoorVtid
import Derived.Test.YtkmcnhjfnjikaaaGreatDoorVadd
namespace Go.Proofs.YtkmcnhjfnjikaaaGreatDoor
/-- A file written, and kept. -/
structure Wrt (d d' : DS) (nm : ByteArray) (D : List Int) : Prop where
  up : Up d'.l
  left : d'.left = -1
  off : d'.off = false
  q : d'.q = d.q
  find : ∀ a, find a d'.l = if a = nm then some ⟨nm, D, D.length⟩ else find a d.l
  tot : total d'.l + lenO (Go.Proofs.YtkmcnhjfnjikaaaGreatDoor.find nm d.l) = total d.l + D.length
theorem app_free {d : DS} {nm : ByteArray} {b : List Int} (hl : d.left = -1) (ho : d.off = false) (hn : nameB nm = true) (ht : (total d.l : Int) + b.length ≤ d.q) :
    appE d nm b = 0 ∧ appS d nm b = { d with l := putF ⟨nm, datO (find nm d.l) ++ b, kepO (find nm d.l)⟩ d.l } := by
  have hs : d.spent = d := spent_free' hl
  unfold appE appS
  rw [ho, hn, hl, hs]
  simp only [Bool.false_eq_true, if_false, Bool.true_eq_false]
  rw [if_neg (show ¬ d.q < (total d.l : Int) + (b.length : Int) by omega), if_neg (show ¬ d.q < (total d.l : Int) + (b.length : Int) by omega), if_neg (by decide), if_neg (by decide)]
  exact ⟨rfl, by rw [hl, ho]⟩
theorem syn_free {d : DS} {nm : ByteArray} {f : Fl} (hl : d.left = -1) (ho : d.off = false) (hf : find nm d.l = some f) :
    synE d nm = 0 ∧ synS d nm = { d with l := putF ⟨nm, f.dt, f.dt.length⟩ d.l } := by
  have hs : d.spent = d := spent_free' hl
  unfold synE synS
  rw [ho, hf, hl, hs]
  simp only [Bool.false_eq_true, if_false, Option.isNone_some]
  rw [if_neg (by decide), if_neg (by decide)]
  exact ⟨rfl, by rw [hl, ho]⟩
theorem wr_free {d : DS} {nm : ByteArray} {b : List Int} (hu : Up d.l) (hl : d.left = -1) (ho : d.off = false) (hn : nameB nm = true) (ht : (total d.l : Int) + b.length ≤ d.q) :
    wrE d nm b = 0 ∧ Wrt d (wrS d nm b) nm (datO (find nm d.l) ++ b) := by
  have ha := app_free hl ho hn ht
  have hu2 : Up (putF ⟨nm, datO (find nm d.l) ++ b, kepO (find nm d.l)⟩ d.l) := up_putF hu
  have hf2 : find nm (putF ⟨nm, datO (find nm d.l) ++ b, kepO (find nm d.l)⟩ d.l) = some ⟨nm, datO (find nm d.l) ++ b, kepO (find nm d.l)⟩ := by rw [find_putF _ _ _ hu, if_pos rfl]
  have hs := syn_free (d := { d with l := putF ⟨nm, datO (find nm d.l) ++ b, kepO (find nm d.l)⟩ d.l }) (nm := nm) hl ho hf2
  unfold wrE wrS
  rw [ha.1, ha.2, if_neg (by decide), if_neg (by decide), hs.1, hs.2]
  refine ⟨rfl, up_putF hu2, hl, ho, rfl, fun a => ?_, ?_⟩
  · show find a (putF _ _) = _
    rw [find_putF _ _ _ hu2]
    by_cases h : a = nm
    · rw [if_pos h, if_pos h]
    · rw [if_neg h, if_neg h, find_putF _ _ _ hu, if_neg h]
  · change total (putF ⟨nm, datO (find nm d.l) ++ b, (datO (find nm d.l) ++ b).length⟩ (putF ⟨nm, datO (find nm d.l) ++ b, kepO (find nm d.l)⟩ d.l)) + _ = _
    have h1 := total_putF ⟨nm, datO (find nm d.l) ++ b, (datO (find nm d.l) ++ b).length⟩ _ hu2
    have h2 := total_putF ⟨nm, datO (find nm d.l) ++ b, kepO (find nm d.l)⟩ _ hu
    dsimp only at h1 h2
    rw [hf2] at h1
    simp only [lenO] at h1
    omega
theorem wr_full {d : DS} {nm : ByteArray} {b : List Int} (ho : d.off = false) (hn : nameB nm = true) (ht : d.q < (total d.l : Int) + b.length) : wrE d nm b = 7 ∧ wrS d nm b = d ∧ wrB d nm b = false := by
  have h1 : appE d nm b = 7 := by unfold appE; rw [ho, hn]; simp only [Bool.false_eq_true, if_false, Bool.true_eq_false]; rw [if_pos ht]
  have h2 : appS d nm b = d := by unfold appS; rw [ho, hn]; simp only [Bool.false_eq_true, if_false, Bool.true_eq_false]; rw [if_pos ht]
  have h3 : wrE d nm b = 7 := by unfold wrE; rw [h1, if_pos (by decide)]
  refine ⟨h3, ?_, ?_⟩
  · unfold wrS; rw [h1, h2, if_pos (by decide)]
  · unfold wrB; rw [h3, h1]; rfl
/-- Nothing but one generation, kept, its segments 1 to K. -/
structure Gd (d : DS) (G K : Nat) (F : Nat → List (List Int)) : Prop where
  up : Up d.l
  left : d.left = -1
  off : d.off = false
  only : ∀ a, find a d.l ≠ none → ∃ k, (1 ≤ k ∧ k ≤ K) ∧ a = segN G k
  has : ∀ k, 1 ≤ k → k ≤ K → find (segN G k) d.l = some ⟨segN G k, enc (F k), (enc (F k)).length⟩
  right : ∀ k, 1 ≤ k → k ≤ K → Right (F k)
  ne : F 1 ≠ []
  hd : Hd F K
section
variable {d : DS} {G K : Nat} {F : Nat → List (List Int)}
theorem Gd.sg (h : Gd d G K F) (hG : 1 ≤ G ∧ G < 100) (hK : 1 ≤ K ∧ K < 99) : Sg d.l G K F [] := by
  refine ⟨hK.1, fun k h1 h2 => ⟨_, h.has k h1 (by omega), rfl⟩, ⟨_, h.has K hK.1 (Nat.le_refl _), by simp⟩, ?_, h.right, h.ne, nxE_nil⟩
  cases hf : find (segN G (K + 1)) d.l with
  | none => rfl
  | some x =>
    obtain ⟨k, hk, e⟩ := h.only (segN G (K + 1)) (by rw [hf]; simp)
    have := segN_inj hG ⟨by omega, by omega⟩ hG ⟨by omega, by omega⟩ e
    omega
theorem Gd.whole (h : Gd d G K F) (hG : 1 ≤ G ∧ G < 100) (hK : 1 ≤ K ∧ K < 99) : whole d.l G = true := (h.sg hG hK).whole h.up hG (by omega) h.hd
theorem Gd.others (h : Gd d G K F) (hG : 1 ≤ G ∧ G < 100) (hK : 1 ≤ K ∧ K < 99) {g : Nat} (hg : 1 ≤ g ∧ g < 100) (hne : g ≠ G) : Go.Proofs.YtkmcnhjfnjikaaaGreatDoor.whole d.l g = false := by
  apply whole_none
  cases hf : find (segN g 1) d.l with
  | none => rfl
  | some x =>
    obtain ⟨k, hk, e⟩ := h.only (segN g 1) (by rw [hf]; simp)
    have := segN_inj hg ⟨by omega, by omega⟩ hG ⟨by omega, by omega⟩ e
    omega
theorem Gd.opG (h : Gd d G K F) (hG : 1 ≤ G ∧ G < 100) (hK : 1 ≤ K ∧ K < 99) : opG d = G := op_best hG (h.whole hG hK) fun j h1 h2 => h.others hG hK ⟨by omega, by omega⟩ (by omega)
theorem Gd.opZ (h : Gd d G K F) (hG : 1 ≤ G ∧ G < 100) (hK : 1 ≤ K ∧ K < 99) : opZ d = ⟨cat F K, K, (enc (F K)).length, (enc (F K)).length⟩ := by
  rw [opZ_of (h.opG hG hK) (by omega), (h.sg hG hK).gen h.up hG (by omega)]; rfl
theorem Gd.olds (h : Gd d G K F) (hG : 1 ≤ G ∧ G < 100) (hK : 1 ≤ K ∧ K < 99) : olds d.l G K = [] := by
  unfold Go.Proofs.YtkmcnhjfnjikaaaGreatDoor.olds
  apply List.filter_eq_nil_iff.2
  intro s hs
  obtain ⟨f, hf, rfl⟩ := List.mem_map.1 hs
  obtain ⟨k, hk, e⟩ := h.only f.nm (by rw [find_of_mem h.up hf]; simp)
  rw [e, segOf_segN (by omega) (by omega)]
  simp
  intro _
  omega
theorem putF_found {f : Fl} : ∀ {l : List Fl}, Up l → find f.nm l = some f → putF f l = l
  | [], _, h => by cases h
  | x :: l, hu, h => by
    unfold find at h
    split at h
    · rename_i e
      injection h with h
      rw [putF_same l e, h]
    · rename_i e
      have hm := find_mem h
      have hx := List.rel_of_pairwise_cons hu hm.1
      rw [putF_lt l e hx, putF_found (List.Pairwise.of_cons hu) h]
theorem Gd.open (h : Gd d G K F) (hG : 1 ≤ G ∧ G < 100) (hK : 1 ≤ K ∧ K < 99) : opE d = 0 ∧ opS d = d ∧ opL d = (cat F K).tail := by
  have hg := h.opG hG hK
  have hz := h.opZ hG hK
  have h1 : op1E d = 0 := by unfold op1E; rw [hz, if_neg (Nat.lt_irrefl _)]
  have h2 : op1S d = d := by unfold op1S; rw [hz, if_neg (Nat.lt_irrefl _)]
  have h3 : op2 d = (0, d) := by unfold op2; rw [hg, hz, h2]; dsimp only; rw [h.olds hG hK]; rfl
  have hs := syn_free h.left h.off (h.has K hK.1 (Nat.le_refl _))
  have hl : opL d = (cat F K).tail := by unfold opL; rw [hz]
  unfold opE opS
  rw [h1, h3, hg, hz]
  dsimp only
  rw [if_neg (show ¬ (0 : Int) ≠ 0 by decide), if_neg (show ¬ (0 : Int) ≠ 0 by decide), if_neg (show ¬ G = 0 by omega), if_neg (show ¬ (0 : Int) ≠ 0 by decide), if_neg (show ¬ (0 : Int) ≠ 0 by decide), if_neg (show ¬ G = 0 by omega), hs.1, hs.2]
  refine ⟨rfl, ?_, hl⟩
  dsimp only
  rw [putF_found h.up (f := ⟨segN G K, enc (F K), (enc (F K)).length⟩) (h.has K hK.1 (Nat.le_refl _))]
end
end Go.Proofs.YtkmcnhjfnjikaaaGreatDoor
/- What Add and Anew make of a disk that has nothing but one generation. No condition: nothing here speaks of a program. -/
namespace Go.Proofs.YtkmcnhjfnjikaaaGreatDoor
def updF (F : Nat → List (List Int)) (k : Nat) (L : List (List Int)) : Nat → List (List Int) := fun j => if j = k then L else F j
theorem cat_updF {F : Nat → List (List Int)} {k : Nat} {L : List (List Int)} : ∀ {K : Nat}, K < k → cat (updF F k L) K = cat F K
  | 0, _ => rfl
  | K + 1, h => by
    unfold cat updF
    rw [if_neg (by omega)]
    congr 1
    exact cat_updF (by omega)
theorem updF_same (F : Nat → List (List Int)) (k : Nat) (L : List (List Int)) : updF F k L k = L := if_pos rfl
theorem updF_other (F : Nat → List (List Int)) {k j : Nat} (L : List (List Int)) (h : j ≠ k) : updF F k L j = F j := if_neg h
theorem enc_app_len (A B : List (List Int)) : (enc (A ++ B)).length = (enc A).length + (enc B).length := by rw [enc_append, List.length_append]
section
variable {d : DS} {G K : Nat} {F : Nat → List (List Int)} {new : List (List Int)}
theorem adR_ok (hG : 1 ≤ G) (hm : mayB new = true) : adR ⟨G, K, false⟩ new = 0 := by
  unfold adR
  rw [if_neg (by simp), if_neg (show ¬ G = 0 by omega), if_neg (by rw [hm]; simp)]
theorem Gd.next (h : Gd d G K F) (hK : 1 ≤ K ∧ K < 98) : nextK d ⟨G, K, false⟩ = if 4096 < (enc (F K)).length then K + 1 else K := by
  unfold nextK
  rw [h.has K hK.1 (Nat.le_refl _)]
  show (if 4096 < (enc (F K)).length ∧ K < most then K + 1 else K) = _
  by_cases hc : 4096 < (enc (F K)).length
  · rw [if_pos ⟨hc, by unfold most; omega⟩, if_pos hc]
  · rw [if_neg (fun k => hc k.1), if_neg hc]
/-- Segment k, or nothing behind the last one. -/
def segF (F : Nat → List (List Int)) (K k : Nat) : List (List Int) := if k ≤ K then F k else []
theorem Gd.dat (h : Gd d G K F) (hG : 1 ≤ G ∧ G < 100) (hK : 1 ≤ K ∧ K < 98) {k : Nat} (hk : 1 ≤ k ∧ k ≤ K + 1) : datO (find (segN G k) d.l) = enc (segF F K k) := by
  unfold segF
  by_cases hc : k ≤ K
  · rw [if_pos hc, h.has k hk.1 hc]; rfl
  · rw [if_neg hc]
    obtain rfl : k = K + 1 := by omega
    rw [(h.sg hG ⟨hK.1, by omega⟩).none]; rfl
theorem Gd.wrote (h : Gd d G K F) (hG : 1 ≤ G ∧ G < 100) (hK : 1 ≤ K ∧ K < 98) {K' : Nat} (hK' : K' = K ∨ K' = K + 1) (hr : Right new) {d' : DS} (hw : Wrt d d' (segN G K') (enc (segF F K K') ++ enc new)) (hn : K' = K + 1 → new ≠ []) :
    Gd d' G K' (updF F K' (segF F K K' ++ new)) ∧ cat (updF F K' (segF F K K' ++ new)) K' = cat F K ++ new := by
  have hcat : cat (updF F K' (segF F K K' ++ new)) K' = cat F K ++ new := by
    rcases hK' with rfl | rfl
    · obtain ⟨j, rfl⟩ : ∃ j, K' = j + 1 := ⟨K' - 1, by omega⟩
      show cat (updF F (j + 1) _) j ++ updF F (j + 1) _ (j + 1) = (cat F j ++ F (j + 1)) ++ new
      rw [cat_updF (by omega), updF_same]
      unfold segF
      rw [if_pos (Nat.le_refl _), List.append_assoc]
    · show cat (updF F (K + 1) _) K ++ updF F (K + 1) _ (K + 1) = _
      rw [cat_updF (by omega), updF_same]
      unfold segF
      rw [if_neg (by omega), List.nil_append]
  refine ⟨⟨hw.up, hw.left, hw.off, fun a ha => ?_, fun k h1 h2 => ?_, fun k h1 h2 => ?_, ?_, ?_⟩, hcat⟩
  · rw [hw.find] at ha
    by_cases e : a = segN G K'
    · exact ⟨K', by omega, e⟩
    · rw [if_neg e] at ha
      obtain ⟨k, hk, e2⟩ := h.only a ha
      exact ⟨k, by omega, e2⟩
  · rw [hw.find]
    by_cases e : k = K'
    · subst e
      rw [if_pos rfl, updF_same, enc_append]
    · rw [if_neg (fun k2 => e (segN_inj hG ⟨h1, by omega⟩ hG ⟨by omega, by omega⟩ k2).2), updF_other _ _ e, h.has k h1 (by omega)]
  · by_cases e : k = K'
    · subst e
      rw [updF_same]
      intro p hp
      rcases List.mem_append.1 hp with h3 | h3
      · unfold segF at h3
        split at h3
        · exact h.right k h1 (by assumption) p h3
        · cases h3
      · exact hr p h3
    · rw [updF_other _ _ e]; exact h.right k h1 (by omega)
  · by_cases e : 1 = K'
    · subst e
      rw [updF_same]
      unfold segF
      rw [if_pos hK.1]
      intro e2
      exact h.ne (List.append_eq_nil_iff.1 e2).1
    · rw [updF_other _ _ e]; exact h.ne
  · obtain ⟨m, t, h1, h2, h3⟩ := h.hd.head
    exact ⟨m, t ++ new, h1, by rw [hcat, h2]; rfl, by rw [List.length_append]; omega⟩
/-- What Add does on it, where there is room. -/
structure Added (d : DS) (G K : Nat) (F : Nat → List (List Int)) (new : List (List Int)) (K' : Nat) (F' : Nat → List (List Int)) : Prop where
  e : adE d ⟨G, K, false⟩ new = 0
  w : adW d ⟨G, K, false⟩ new = ⟨G, K', false⟩
  g : Gd (adS d ⟨G, K, false⟩ new) G K' F'
  cat : cat F' K' = Go.Proofs.YtkmcnhjfnjikaaaGreatDoor.cat F K ++ new
  k1 : K ≤ K' ∧ K' ≤ K + 1
  q : (adS d ⟨G, K, false⟩ new).q = d.q
  tot : total (adS d ⟨G, K, false⟩ new).l = total d.l + (enc new).length
  next : new ≠ [] → K' = if 4096 < (enc (F K)).length then K + 1 else K
  last : (enc (F' K')).length = (if K' = K then (enc (F K)).length else 0) + (enc new).length
theorem Gd.add (h : Gd d G K F) (hG : 1 ≤ G ∧ G < 100) (hK : 1 ≤ K ∧ K < 98) (hm : mayB new = true) (ho : ∀ p, p ∈ new → Octets p) (ht : (total d.l : Int) + (enc new).length ≤ d.q) : ∃ K' F', Added d G K F new K' F' := by
  have hR : adR ⟨G, K, false⟩ new = 0 := adR_ok hG.1 hm
  by_cases hne : new = []
  · have := adE_none (d := d) hR hne
    subst hne
    exact ⟨K, F, this.1, this.2.2, by rw [this.2.1]; exact h, by simp, ⟨Nat.le_refl _, by omega⟩, by rw [this.2.1], by rw [this.2.1]; simp [enc_nil], fun h => absurd rfl h, by simp [enc_nil]⟩
  · obtain ⟨e1, e2, e3⟩ := adE_some (d := d) hR hne
    have hn := h.next hK
    dsimp only at e1 e2 e3
    obtain ⟨K', hK'⟩ : ∃ K', nextK d ⟨G, K, false⟩ = K' := ⟨_, rfl⟩
    rw [hK'] at e1 e2 e3 hn
    have hkk : K' = K ∨ K' = K + 1 := by rw [hn]; split; exact .inr rfl; exact .inl rfl
    have hw := wr_free (nm := segN G K') (b := enc new) h.up h.left h.off (segN_name (by omega) (by omega)) ht
    have hdat := h.dat hG hK (k := K') (by omega)
    rw [hdat] at hw
    have hg := h.wrote hG hK hkk (right_of hm ho) hw.2 (fun _ => hne)
    refine ⟨K', updF F K' (segF F K K' ++ new), by rw [e1, hw.1], by rw [e3, hw.1, if_pos rfl], by rw [e2]; exact hg.1, hg.2, by omega, by rw [e2]; exact hw.2.q, ?_, fun _ => hn, ?_⟩
    · rw [e2]
      have := hw.2.tot
      have hd : lenO (find (segN G K') d.l) = (enc (segF F K K')).length := by rw [lenO_dat, hdat]
      rw [List.length_append] at this
      omega
    · rw [updF_same, enc_app_len]
      unfold segF
      rcases hkk with rfl | rfl
      · rw [if_pos (Nat.le_refl _), if_pos rfl]
      · rw [if_neg (by omega), if_neg (by omega), enc_nil]; rfl
theorem Gd.full (h : Gd d G K F) (hG : 1 ≤ G ∧ G < 100) (hK : 1 ≤ K ∧ K < 98) (hm : mayB new = true) (hne : new ≠ []) (ht : d.q < (total d.l : Int) + (enc new).length) :
    adE d ⟨G, K, false⟩ new = 7 ∧ adS d ⟨G, K, false⟩ new = d ∧ adW d ⟨G, K, false⟩ new = ⟨G, K, false⟩ := by
  obtain ⟨e1, e2, e3⟩ := adE_some (d := d) (adR_ok (K := K) hG.1 hm) hne
  have hn := h.next hK
  have hk2 : nextK d ⟨G, K, false⟩ ≤ K + 1 := nextK_le d _
  dsimp only at e1 e2 e3
  obtain ⟨f1, f2, f3⟩ := wr_full (nm := segN G (nextK d ⟨G, K, false⟩)) h.off (segN_name (by omega) (by omega)) ht
  rw [e1, e2, e3, f1, f2, f3, if_neg (by decide)]
  exact ⟨rfl, rfl, rfl⟩
end
end Go.Proofs.YtkmcnhjfnjikaaaGreatDoor
/- What Anew makes of a disk that has nothing but one generation, or nothing. No condition: nothing here speaks of a program. -/
namespace Go.Proofs.YtkmcnhjfnjikaaaGreatDoor
theorem rem_free {d : DS} {s : ByteArray} (hl : d.left = -1) (ho : d.off = false) (hf : (find s d.l).isSome = true) : remE d s = 0 ∧ remS d s = { d with l := delF s d.l } := by
  have hs : d.spent = d := spent_free' hl
  have hn : (find s d.l).isNone = false := by cases h : find s d.l with
    | none => rw [h] at hf; cases hf
    | some x => rfl
  constructor
  · unfold remE; rw [ho, hn, hl]; rfl
  · unfold remS
    rw [ho, hs]
    cases h : find s d.l with
    | none => rw [h] at hf; cases hf
    | some x => dsimp only; rw [if_neg (by simp), hl, if_neg (by decide), ho]
theorem remL_all : ∀ (ns : List ByteArray) (d : DS), d.left = -1 → d.off = false → ns.Nodup → (∀ s, s ∈ ns → (find s d.l).isSome = true) → remL ns d = (0, { d with l := d.l.filter fun f => ns.all fun s => decide (f.nm ≠ s) })
  | [], d, _, _, _, _ => by
    show ((0 : Int), d) = _
    have : (d.l.filter fun f => ([] : List ByteArray).all fun s => decide (f.nm ≠ s)) = d.l := by apply List.filter_eq_self.2; intro f _; rfl
    rw [this]
  | s :: r, d, hl, ho, hnd, hf => by
    obtain ⟨e1, e2⟩ := rem_free hl ho (hf s List.mem_cons_self)
    rw [remL_cons, e1, if_pos rfl, e2]
    rw [remL_all r { d with l := delF s d.l } hl ho (List.nodup_cons.1 hnd).2 fun t ht => by
      show (find t (delF s d.l)).isSome = true
      rw [find_delF, if_neg (fun e : t = s => (List.nodup_cons.1 hnd).1 (by rw [← e]; exact ht))]
      exact hf t (List.mem_cons_of_mem _ ht)]
    congr 2
    show List.filter _ (delF s d.l) = _
    unfold delF
    rw [List.filter_filter]
    congr 1
    funext f
    rw [List.all_cons, Bool.and_comm]
theorem dropL_eq {l : List Fl} {g K : Nat} (hs : ∀ k, 1 ≤ k → k ≤ K → (find (segN g k) l).isSome = true) (hn : find (segN g (K + 1)) l = none) : ∀ (j k f : Nat), K + 1 - k = j → 1 ≤ k → k ≤ K + 1 → K + 2 ≤ f + k → dropL l g f k = (List.range j).map fun i => segN g (k + i)
  | 0, k, 0, hj, h1, h2, hf => rfl
  | 0, k, f + 1, hj, h1, h2, hf => by
    obtain rfl : k = K + 1 := by omega
    unfold dropL
    rw [hn]
    rfl
  | j + 1, k, 0, hj, h1, h2, hf => by omega
  | j + 1, k, f + 1, hj, h1, h2, hf => by
    unfold dropL
    rw [if_pos (hs k h1 (by omega)), dropL_eq hs hn j (k + 1) f (by omega) (by omega) (by omega) (by omega), List.range_succ_eq_map, List.map_cons, List.map_map]
    congr 1
    apply List.map_congr_left
    intro i _
    show segN g (k + 1 + i) = segN g (k + (i + 1))
    rw [show k + 1 + i = k + (i + 1) by omega]
theorem one_file {l : List Fl} {f : Fl} (hu : Up l) (hf : f ∈ l) (ha : ∀ x, x ∈ l → x.nm = f.nm) : l = [f] := by
  cases l with
  | nil => cases hf
  | cons x r =>
    have hr : r = [] := by
      cases r with
      | nil => rfl
      | cons y r2 =>
        have h := List.rel_of_pairwise_cons hu (List.mem_cons_self : y ∈ y :: r2)
        rw [ha x List.mem_cons_self, ha y (by simp), lt_self] at h
        cases h
    subst hr
    rcases List.mem_cons.1 hf with h | h
    · rw [h]
    · cases h
/-- Nothing but segments 1 to K of one generation; none, if there is no generation. -/
structure Od (d : DS) (G K : Nat) : Prop where
  up : Up d.l
  left : d.left = -1
  off : d.off = false
  only : ∀ a, find a d.l ≠ none → ∃ k, (1 ≤ k ∧ k ≤ K) ∧ a = segN G k
  has : ∀ k, 1 ≤ k → k ≤ K → (find (segN G k) d.l).isSome = true
  zero : G = 0 → K = 0
section
variable {d : DS} {G K : Nat} {F : Nat → List (List Int)} {new : List (List Int)}
theorem Gd.old (h : Gd d G K F) (hG : 1 ≤ G) : Od d G K := ⟨h.up, h.left, h.off, h.only, fun k h1 h2 => by rw [h.has k h1 h2]; rfl, fun e => by omega⟩
theorem Od.empty (q : Int) : Od ⟨q, [], -1, false⟩ 0 0 := ⟨List.Pairwise.nil, rfl, rfl, fun a ha => absurd rfl ha, fun k h1 h2 => by omega, fun _ => rfl⟩
/-- The new generation's payloads. -/
def anF (new : List (List Int)) : List (List Int) := num7 (new.length : Nat) :: new
theorem anB_enc (new : List (List Int)) : anB new = enc (anF new) := rfl
structure Anewed (d : DS) (G K : Nat) (new : List (List Int)) : Prop where
  e : anE d ⟨G, K, false⟩ new = 0
  w : anW d ⟨G, K, false⟩ new = ⟨G + 1, 1, false⟩
  g : Gd (anS d ⟨G, K, false⟩ new) (G + 1) 1 (fun _ => anF new)
  q : (anS d ⟨G, K, false⟩ new).q = d.q
  tot : total (anS d ⟨G, K, false⟩ new).l = (enc (anF new)).length
theorem right_anF (hm : mayB new = true) (ho : ∀ p, p ∈ new → Octets p) : Right (anF new) := fun p hp => by
  rcases List.mem_cons.1 hp with rfl | h
  · have := num7_len (new.length : Nat)
    exact ⟨⟨by omega, by omega⟩, octets_num7 _⟩
  · exact right_of hm ho p h
theorem Od.anew (h : Od d G K) (hG : G < 98) (hK : K < 98) (hm : mayB new = true) (ho : ∀ p, p ∈ new → Octets p) (hl : new.length ≤ 1000000) (ht : (total d.l : Int) + (enc (anF new)).length ≤ d.q) : Anewed d G K new := by
  have hR : anR ⟨G, K, false⟩ new = 0 := by
    unfold anR
    rw [if_neg (by simp), if_neg (by rw [hm]; simp), if_neg (show ¬ G = most by unfold most; omega)]
  have hnone : find (segN (G + 1) 1) d.l = none := by
    cases hf : find (segN (G + 1) 1) d.l with
    | none => rfl
    | some x =>
      obtain ⟨k, hk, e⟩ := h.only (segN (G + 1) 1) (by rw [hf]; simp)
      have h0 : 1 ≤ G := by rcases Nat.eq_zero_or_pos G with h0 | h0; have := h.zero h0; omega; exact h0
      have := segN_inj ⟨by omega, by omega⟩ ⟨by omega, by omega⟩ ⟨h0, by omega⟩ ⟨by omega, by omega⟩ e
      omega
  have hw := wr_free (nm := segN (G + 1) 1) (b := anB new) h.up h.left h.off (segN_name (by omega) (by omega)) (by rw [anB_enc]; exact ht)
  rw [hnone, show datO none = [] from rfl, List.nil_append] at hw
  have hok := anE_ok (d := d) (F := new) hR hw.1
  obtain ⟨d1, hd1⟩ : ∃ d1, wrS d (segN (G + 1) 1) (anB new) = d1 := ⟨_, rfl⟩
  have hw2 := hw.2
  rw [show wrS d (segN (G + 1) 1) (anB new) = d1 from hd1] at hw2
  have hold : ∀ a, a ≠ segN (G + 1) 1 → find a d1.l = find a d.l := fun a ha => by rw [hw2.find, if_neg ha]
  have hseg : ∀ k, 1 ≤ G → 1 ≤ k → k < 100 → segN G k ≠ segN (G + 1) 1 := fun k h0 h1 h2 e => by
    have := segN_inj ⟨h0, by omega⟩ ⟨h1, h2⟩ ⟨by omega, by omega⟩ ⟨by omega, by omega⟩ e
    omega
  have hnew : find (segN (G + 1) 1) d1.l = some ⟨segN (G + 1) 1, enc (anF new), (enc (anF new)).length⟩ := by rw [hw2.find, if_pos rfl]; rfl
  have hD : anD d ⟨G, K, false⟩ new = (0, { d1 with l := [⟨segN (G + 1) 1, enc (anF new), (enc (anF new)).length⟩] }) := by
    have hdr : anO d ⟨G, K, false⟩ new = (List.range K).map fun i => segN G (1 + i) := by
      unfold anO
      dsimp only
      by_cases h0 : G = 0
      · rw [if_pos h0, h.zero h0]; rfl
      · rw [if_neg h0, hd1]
        have hkl : K ≤ d.l.length := found_le ⟨by omega, by omega⟩ h.up (by omega) h.has
        refine dropL_eq (K := K) (fun k h1 h2 => ?_) ?_ K 1 _ (by omega) (Nat.le_refl _) (by omega) (by omega)
        · rw [hold _ (hseg k (by omega) h1 (by omega))]; exact h.has k h1 h2
        · rw [hold _ (hseg (K + 1) (by omega) (by omega) (by omega))]
          cases hf : find (segN G (K + 1)) d.l with
          | none => rfl
          | some x =>
            obtain ⟨k, hk, e⟩ := h.only (segN G (K + 1)) (by rw [hf]; simp)
            have := segN_inj ⟨by omega, by omega⟩ ⟨by omega, by omega⟩ ⟨by omega, by omega⟩ ⟨by omega, by omega⟩ e
            omega
    have hmem : ∀ s, s ∈ (List.range K).map (fun i => segN G (1 + i)) → 1 ≤ G ∧ ∃ k, (1 ≤ k ∧ k ≤ K) ∧ s = segN G k := fun s hs => by
      obtain ⟨i, hi, rfl⟩ := List.mem_map.1 hs
      have := List.mem_range.1 hi
      refine ⟨?_, 1 + i, by omega, rfl⟩
      rcases Nat.eq_zero_or_pos G with h0 | h0
      · have := h.zero h0; omega
      · exact h0
    unfold anD
    dsimp only
    rw [hd1, hdr, remL_all _ d1 hw2.left hw2.off]
    · congr 2
      apply one_file (List.Pairwise.filter _ hw2.up)
      · apply List.mem_filter.2
        refine ⟨(find_mem hnew).1, ?_⟩
        apply List.all_eq_true.2
        intro s hs
        obtain ⟨h0, k, hk, e⟩ := hmem s hs
        simp only [ne_eq, decide_eq_true_eq]
        intro e2
        exact hseg k h0 hk.1 (by omega) (e.symm.trans e2.symm)
      · intro x hx
        obtain ⟨h1, h2⟩ := List.mem_filter.1 hx
        have h2 := List.all_eq_true.1 h2
        show x.nm = segN (G + 1) 1
        apply Classical.byContradiction
        intro hne
        have hfx := find_of_mem hw2.up h1
        rw [hold _ hne] at hfx
        obtain ⟨k, hk, e⟩ := h.only x.nm (by rw [hfx]; simp)
        have h3 := h2 (segN G k) (List.mem_map.2 ⟨k - 1, List.mem_range.2 (by omega), by rw [show 1 + (k - 1) = k by omega]⟩)
        simp only [ne_eq, decide_eq_true_eq] at h3
        exact h3 e
    · apply List.pairwise_map.2
      refine List.Pairwise.imp_of_mem (fun {i j} hi hj hij e => ?_) List.nodup_range
      have h1 := List.mem_range.1 hi
      have h2 := List.mem_range.1 hj
      have h0 : 1 ≤ G := by rcases Nat.eq_zero_or_pos G with h0 | h0; have := h.zero h0; omega; exact h0
      have := segN_inj ⟨h0, by omega⟩ ⟨by omega, by omega⟩ ⟨h0, by omega⟩ ⟨by omega, by omega⟩ e
      exact hij (by omega)
    · intro s hs
      obtain ⟨h0, k, hk, rfl⟩ := hmem s hs
      rw [hold _ (hseg k h0 hk.1 (by omega))]
      exact h.has k hk.1 hk.2
  rw [hD] at hok
  refine ⟨hok.1, by rw [hok.2.2, if_neg (show ¬ (0 : Int) ≠ 0 by decide)], ?_, by rw [hok.2.1]; exact hw2.q, by rw [hok.2.1]; simp [total]⟩
  rw [hok.2.1]
  have hr := right_anF hm ho
  refine ⟨List.pairwise_singleton _ _, hw2.left, hw2.off, fun a ha => ⟨1, by omega, ?_⟩, fun k h1 h2 => ?_, fun _ _ _ => hr, by unfold anF; simp, ⟨new.length, new, hl, rfl, Nat.le_refl _⟩⟩
  · apply Classical.byContradiction
    intro hne
    exact ha (by show find a [_] = none; unfold find; rw [if_neg (fun e => hne e.symm)]; rfl)
  · obtain rfl : k = 1 := by omega
    show find (segN (G + 1) 1) [_] = _
    unfold find
    rw [if_pos rfl]
end
end Go.Proofs.YtkmcnhjfnjikaaaGreatDoor
