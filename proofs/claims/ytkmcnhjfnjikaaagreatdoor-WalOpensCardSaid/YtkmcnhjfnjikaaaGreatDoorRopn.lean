/- Open twice, no crash between: the second finds what the first left. No condition: nothing here speaks of a program. -/
import Derived.Test.YtkmcnhjfnjikaaaGreatDoorRboth
import Derived.Test.YtkmcnhjfnjikaaaGreatDoorLas
import Derived.Deep.DeepCutAuto
import Derived.Deep.CutBlock
import Derived.Deep.RegionHeld3
namespace Go.Proofs.YtkmcnhjfnjikaaaGreatDoor
noncomputable def fseg (l : List Fl) (g k : Nat) : List (List Int) :=
  match find (segN g k) l with
  | some x => frs x.dt
  | none => []
theorem fseg_at {l : List Fl} {g k : Nat} {x : Fl} (h : find (segN g k) l = some x) : fseg l g k = frs x.dt := by unfold fseg; rw [h]
/-- What is read of a generation's first segments. -/
structure Rdi (l : List Fl) (g : Nat) (s : Gs) : Prop where
  L : s.L = cat (fseg l g) s.k
  full : ∀ j, 1 ≤ j → j < s.k → ∃ x, find (segN g j) l = some x ∧ fpl x.dt = x.dt.length
  last : s.k ≠ 0 → ∃ x, find (segN g s.k) l = some x ∧ s.u = fpl x.dt ∧ s.n = x.dt.length
  ne : 2 ≤ s.k → fseg l g 1 ≠ []
theorem Rdi.zero (l : List Fl) (g : Nat) : Rdi l g Gs.zero := ⟨rfl, fun j h1 h2 => by have h2 : j < 0 := h2; omega, fun h => absurd rfl h, fun h => by have h : 2 ≤ 0 := h; omega⟩
theorem Rdi.more {l : List Fl} {g : Nat} {s : Gs} {x : Fl} (h : Rdi l g s) (he : s.k ≠ 0 → s.ends = false) (hx : find (segN g (s.k + 1)) l = some x) : Rdi l g (s.more (s.k + 1) x.dt) := by
  have hends : s.k ≠ 0 → s.L ≠ [] ∧ ¬ s.u < s.n := fun h0 => by
    have := he h0
    unfold Gs.ends at this
    rw [Bool.or_eq_false_iff] at this
    refine ⟨fun e => by rw [e] at this; simp at this, fun h9 => ?_⟩
    rw [decide_eq_true h9] at this
    exact absurd this.2 (by simp)
  refine ⟨?_, fun j h1 h2 => ?_, fun _ => ⟨x, hx, rfl, rfl⟩, fun h2 => ?_⟩
  · show s.L ++ frs x.dt = cat (fseg l g) s.k ++ fseg l g (s.k + 1)
    rw [h.L, fseg_at hx]
  · have h2 : j < s.k + 1 := h2
    rcases Nat.lt_or_ge j s.k with h3 | h3
    · exact h.full j h1 h3
    · obtain rfl : j = s.k := by omega
      have h0 : s.k ≠ 0 := by omega
      obtain ⟨y, hy, e1, e2⟩ := h.last h0
      have := (hends h0).2
      have := fpl_le y.dt
      exact ⟨y, hy, by omega⟩
  · have h2 : 2 ≤ s.k + 1 := h2
    rcases Nat.lt_or_ge s.k 2 with h3 | h3
    · have h1 : s.k = 1 := by omega
      have := (hends (by omega)).1
      rw [h.L, h1] at this
      intro e
      apply this
      show [] ++ fseg l g 1 = []
      rw [e]; rfl
    · exact h.ne h3
theorem rd_i {l : List Fl} {g : Nat} : ∀ f k s, Rdi l g s → (s.k ≠ 0 → s.ends = false) → s.k + 1 = k → Rdi l g (rd l g f k s)
  | 0, _, _, h, _, _ => h
  | f + 1, k, s, h, he, hk => by
    subst hk
    unfold rd
    cases hf : find (segN g (s.k + 1)) l with
    | none => exact h
    | some x =>
      have h1 := h.more he hf
      dsimp only
      split
      · exact h1
      · rename_i hne
        exact rd_i f _ _ h1 (fun _ => by cases hh : (s.more (s.k + 1) x.dt).ends with | false => rfl | true => exact absurd hh hne) rfl
theorem opZ_i {d : DS} (h : opG d ≠ 0) : Rdi d.l (opG d) (opZ d) := by
  unfold opZ
  rw [if_neg h]
  exact rd_i _ _ _ (Rdi.zero _ _) (fun h0 => absurd rfl h0) rfl
theorem wholeG_L {s s' : Gs} (h : s.L = s'.L) : wholeG s = wholeG s' := by unfold wholeG; rw [h]
theorem olds_none {l : List Fl} {G K : Nat} (hu : Up l) (h : ∀ a, find a l ≠ none → (segOf a).1 ≠ 0 → (segOf a).1 = G ∧ (segOf a).2 ≤ K) : olds l G K = [] := by
  rw [olds_is]
  apply List.filter_eq_nil_iff.2
  intro a ha
  obtain ⟨f, hf, e⟩ := List.mem_map.1 ha
  have e : f.nm = a := e
  have h1 : find a l ≠ none := by rw [← e, find_of_mem hu hf]; simp
  unfold oldB
  by_cases h0 : (segOf a).1 ≠ 0
  · obtain ⟨h2, h3⟩ := h a h1 h0
    rw [decide_eq_true h2, decide_eq_true h3]; simp
  · rw [decide_eq_false h0]; simp
/-- A disk that counts no change: Open has no error; again: it finds the same, changes nothing. -/
theorem op_again {m : Nat} {d : DS} (hok : DOk d) (hl : d.left = -1) (ho : d.off = false) (hs : Sm m d.l) (hm : m ≤ 60) :
    opE d = 0 ∧ Sm m (opS d).l ∧ Up (opS d).l ∧ opE (opS d) = 0 ∧ opL (opS d) = opL d ∧ (opS (opS d)).l = (opS d).l := by
  have hu := hok.up
  have hsl := hs.len
  have hG9 := opG_le d
  by_cases hG : opG d = 0
  · have hz : opZ d = Gs.zero := by unfold opZ; rw [if_pos hG]
    have h1 : op1E d = 0 ∧ op1S d = d := by unfold op1E op1S; rw [hz]; exact ⟨rfl, rfl⟩
    have h2 : op2 d = _ := remL_all (olds d.l (opG d) (opZ d).k) (op1S d) (by rw [h1.2]; exact hl) (by rw [h1.2]; exact ho) (nodup_olds hu _ _) fun s hs2 => by
      rw [h1.2]
      have := (mem_olds hu hs2).1
      cases hf : find s d.l with
      | none => exact absurd hf this
      | some _ => rfl
    obtain ⟨e1, e2⟩ := op_e3 h1.1 h2 hG
    have hpi := Pi.open hs hu hm e1
    rw [hG, hz] at hpi
    have hfree : (opS d).left = -1 ∧ (opS d).off = false := by rw [e2, h1.2]; exact ⟨hl, ho⟩
    have honly : ∀ a, find a (opS d).l ≠ none → (segOf a).1 = 0 := fun a ha => Classical.byContradiction fun h0 => by
      have h9 := hpi.only rfl a ha h0
      have h8 : (segOf a).1 = 0 := h9.1
      exact h0 h8
    have hG2 : opG (opS d) = 0 := best_is (by omega) (fun h => absurd rfl h) fun j h1 h2 => whole_none (by
      cases hx : find (segN j 1) (opS d).l with
      | none => rfl
      | some y =>
        have := honly (segN j 1) (by rw [hx]; simp)
        rw [segOf_segN (by omega) (by omega)] at this
        have : j = 0 := this
        omega)
    have hz2 : opZ (opS d) = Gs.zero := by unfold opZ; rw [if_pos hG2]
    have h3 : op1E (opS d) = 0 ∧ op1S (opS d) = opS d := by unfold op1E op1S; rw [hz2]; exact ⟨rfl, rfl⟩
    have h4 : op2 (opS d) = (0, opS d) := by
      unfold op2
      rw [olds_none hpi.up (fun a ha h0 => absurd (honly a ha) h0), h3.2]
      rfl
    obtain ⟨e3, e4⟩ := op_e3 h3.1 h4 hG2
    exact ⟨e1, hpi.sm, hpi.up, e3, by unfold opL; rw [hz, hz2], by rw [e4]⟩
  · have hi := opZ_i hG
    have hk1 := opZ_k1 hG
    have hZk := opZ_k d
    have hw0 := best_whole d.l 99 hG
    obtain ⟨x, hx, eu, en⟩ := hi.last (by omega)
    have hxm := find_mem hx
    have hxo := hok.oct x hxm.1
    have hfl := fpl_le x.dt
    have hE := op_free hu hl ho ⟨by omega, by omega⟩ ⟨hk1, by omega⟩ hx (by omega)
    obtain ⟨h11, h12, h13, h14, h15⟩ := op1_free hu hl ho hx (by omega)
    obtain ⟨g1, g2, g3, g4⟩ := op_zero hE
    have hpi := Pi.open hs hu hm hE
    have hnm : segN (opG d) (opZ d).k ∉ olds d.l (opG d) (opZ d).k := not_old hu ⟨by omega, by omega⟩ ⟨hk1, by omega⟩ (Nat.le_refl _)
    -- the file that is read last
    have hc1 := cutS_find hu (segN (opG d) (opZ d).k) (opZ d).u
    have hy1 : ∃ y, find (segN (opG d) (opZ d).k) (op1S d).l = some y ∧ y.dt = x.dt.take (opZ d).u := by
      unfold op1S
      by_cases hc : (opZ d).u < (opZ d).n
      · rw [if_pos hc]
        have hsp : d.spent = d := spent_free' hl
        have hneg : ¬ (((opZ d).u : Int) < 0 ∨ (x.dt.length : Int) < ((opZ d).u : Int)) := by omega
        unfold cutS
        rw [ho, hx, hsp]
        simp only [Bool.false_eq_true, if_false]
        rw [if_neg hneg, hl, if_neg (by decide)]
        refine ⟨⟨segN (opG d) (opZ d).k, x.dt.take (opZ d).u, min x.kp (opZ d).u⟩, ?_, rfl⟩
        show find _ (putF _ d.l) = _
        rw [find_putF _ _ _ hu, if_pos rfl]
        rfl
      · rw [if_neg hc]
        exact ⟨x, hx, (List.take_of_length_le (by omega)).symm⟩
    obtain ⟨y, hy, hyd⟩ := hy1
    have hy2 : find (segN (opG d) (opZ d).k) (op2 d).2.l = some y := by
      rcases (remL_find (segN (opG d) (opZ d).k) (olds d.l (opG d) (opZ d).k) (op1S d)).2 with e | ⟨e, _⟩
      · exact e.trans hy
      · exact absurd e hnm
    have h2 : op2 d = _ := remL_all (olds d.l (opG d) (opZ d).k) (op1S d) h12 h13 (nodup_olds hu _ _) fun s hs2 => by
      rw [h15]
      have := (mem_olds hu hs2).1
      cases hf : find s d.l with
      | none => exact absurd hf this
      | some _ => rfl
    have hf2 : (op2 d).2.left = -1 ∧ (op2 d).2.off = false := by rw [h2]; exact ⟨h12, h13⟩
    have hu2 : Up (op2 d).2.l := (remL_find (segN 1 1) (olds d.l (opG d) (opZ d).k) (op1S d)).1 h14
    obtain ⟨s1, s2⟩ := syn_free hf2.1 hf2.2 hy2
    have hS : opS d = _ := (g4 hG).1.trans s2
    have hf3 : (opS d).left = -1 ∧ (opS d).off = false := by rw [hS]; exact hf2
    have hy3 : find (segN (opG d) (opZ d).k) (opS d).l = some ⟨segN (opG d) (opZ d).k, y.dt, y.dt.length⟩ := by
      rw [hS]
      show find _ (putF _ (op2 d).2.l) = _
      rw [find_putF _ _ _ hu2, if_pos rfl]
    have hlow : ∀ k, 1 ≤ k → k < (opZ d).k → find (segN (opG d) k) (opS d).l = find (segN (opG d) k) d.l := fun k k1 k2 => by
      have hne : segN (opG d) k ≠ segN (opG d) (opZ d).k := fun e => by
        have := segN_inj (by omega) (by omega) (by omega) (by omega) e
        omega
      rw [hS]
      show find _ (putF _ (op2 d).2.l) = _
      rw [find_putF _ _ _ hu2, if_neg hne]
      rcases (remL_find (segN (opG d) k) (olds d.l (opG d) (opZ d).k) (op1S d)).2 with e | ⟨e, _⟩
      · refine Eq.trans e ?_
        unfold op1S
        split
        · rcases hc1.2 (segN (opG d) k) with e | ⟨e, _⟩
          · exact e
          · exact absurd e hne
        · rfl
      · exact absurd e (not_old hu ⟨by omega, by omega⟩ ⟨k1, by omega⟩ (by omega))
    have hcut := frs_cut hxo
    have hdt : y.dt = enc (fseg d.l (opG d) (opZ d).k) := by rw [hyd, eu, hcut.1, fseg_at hx]
    have hsg : Sg (opS d).l (opG d) (opZ d).k (fseg d.l (opG d)) [] := by
      refine ⟨hk1, fun k k1 k2 => ?_, ⟨_, hy3, by rw [List.append_nil]; exact hdt⟩, ?_, fun k k1 k2 => ?_, ?_, nxE_nil⟩
      · obtain ⟨z, hz, ez⟩ := hi.full k k1 k2
        refine ⟨z, (hlow k k1 k2).trans hz, ?_⟩
        have hp := (frs_parts (hok.oct z (find_mem hz).1)).1
        rw [ez, List.drop_length, List.append_nil] at hp
        rw [fseg_at hz]; exact hp
      · cases hq : find (segN (opG d) ((opZ d).k + 1)) (opS d).l with
        | none => rfl
        | some z =>
          have h9 := hpi.only rfl (segN (opG d) ((opZ d).k + 1)) (by rw [hq]; simp) (by rw [segOf_segN ⟨by omega, by omega⟩ ⟨by omega, by omega⟩]; exact hG)
          rw [segOf_segN ⟨by omega, by omega⟩ ⟨by omega, by omega⟩] at h9
          have h9 : (opZ d).k + 1 ≤ (opZ d).k := h9.2
          omega
      · rcases Nat.lt_or_ge k (opZ d).k with k3 | k3
        · obtain ⟨z, hz, _⟩ := hi.full k k1 k3
          rw [fseg_at hz]; exact (frs_parts (hok.oct z (find_mem hz).1)).2.1
        · obtain rfl : k = (opZ d).k := by omega
          rw [fseg_at hx]; exact (frs_parts hxo).2.1
      · rcases Nat.lt_or_ge (opZ d).k 2 with k3 | k3
        · intro e
          have hk : (opZ d).k = 1 := by omega
          have hL := hi.L
          rw [hk] at hL
          have hL : (opZ d).L = [] ++ fseg d.l (opG d) 1 := hL
          rw [e] at hL
          have hw : wholeG (opZ d) = true := by unfold opZ; rw [if_neg hG]; exact hw0
          unfold wholeG at hw
          rw [hL] at hw
          cases hw
        · exact hi.ne k3
    have hgen := hsg.gen hpi.up ⟨by omega, by omega⟩ (by omega)
    have hw2 : whole (opS d).l (opG d) = true := by
      unfold whole
      rw [hgen, wholeG_L (s' := opZ d) hi.L.symm]
      unfold opZ; rw [if_neg hG]; exact hw0
    have hG2 : opG (opS d) = opG d := op_best ⟨by omega, by omega⟩ hw2 fun j j1 j2 => whole_none (by
      cases hq : find (segN j 1) (opS d).l with
      | none => rfl
      | some z =>
        have h9 := hpi.only rfl (segN j 1) (by rw [hq]; simp) (by rw [segOf_segN ⟨by omega, by omega⟩ ⟨by omega, by omega⟩]; show j ≠ 0; omega)
        rw [segOf_segN ⟨by omega, by omega⟩ ⟨by omega, by omega⟩] at h9
        have h9 : j = opG d := h9.1
        omega)
    have hz2 : opZ (opS d) = ⟨cat (fseg d.l (opG d)) (opZ d).k, (opZ d).k, (enc (fseg d.l (opG d) (opZ d).k)).length, (enc (fseg d.l (opG d) (opZ d).k)).length + ([] : List Int).length⟩ := by
      rw [← hgen]
      show (if opG (opS d) = 0 then Gs.zero else gen (opS d).l (opG (opS d))) = _
      rw [hG2, if_neg hG]
    have hk2 : (opZ (opS d)).k = (opZ d).k := by rw [hz2]
    have hnc : ¬ (opZ (opS d)).u < (opZ (opS d)).n := by rw [hz2]; exact Nat.lt_irrefl (enc (fseg d.l (opG d) (opZ d).k)).length
    have h31 : op1E (opS d) = 0 := by unfold op1E; rw [if_neg hnc]
    have h32 : op1S (opS d) = opS d := by unfold op1S; rw [if_neg hnc]
    have h4 : op2 (opS d) = (0, opS d) := by
      unfold op2
      rw [hG2, hk2, olds_none hpi.up (fun a ha h0 => hpi.only rfl a ha h0), h32]
      rfl
    obtain ⟨e3, e4⟩ := op_e4 h31 h4 (by rw [hG2]; exact hG)
    rw [hG2, hk2] at e3 e4
    obtain ⟨t1, t2⟩ := syn_free hf3.1 hf3.2 hy3
    refine ⟨hE, hpi.sm, hpi.up, e3.trans t1, ?_, ?_⟩
    · unfold opL; rw [hz2, hi.L]
    · rw [e4, t2]
      exact putF_found hpi.up hy3
end Go.Proofs.YtkmcnhjfnjikaaaGreatDoor
/- What WalOpens holds on to: names, a disk of a few files, data of the call's own. Conditions: as the calls' own. -/
namespace Go.Proofs.YtkmcnhjfnjikaaaGreatDoor
open Go.RowKit Go.Maps
def Okn (nm : ByteArray) : Prop := nm.size ≤ 20 ∧ ((∃ g k, (1 ≤ g ∧ g ≤ 10) ∧ (1 ≤ k ∧ k ≤ 10) ∧ nm = segN g k) ∨ segOf nm = (0, 0))
theorem okn0 : Okn ⟨#[108, 111, 103, 46, 49, 46, 49]⟩ := ⟨by decide, .inl ⟨1, 1, by omega, by omega, rfl⟩⟩
theorem okn1 : Okn ⟨#[108, 111, 103, 46, 49, 46, 50]⟩ := ⟨by decide, .inl ⟨1, 2, by omega, by omega, rfl⟩⟩
theorem okn2 : Okn ⟨#[108, 111, 103, 46, 50, 46, 49]⟩ := ⟨by decide, .inl ⟨2, 1, by omega, by omega, rfl⟩⟩
theorem okn3 : Okn ⟨#[108, 111, 103, 46, 50, 46, 50]⟩ := ⟨by decide, .inl ⟨2, 2, by omega, by omega, rfl⟩⟩
theorem okn4 : Okn ⟨#[108, 111, 103, 46, 50, 46, 51]⟩ := ⟨by decide, .inl ⟨2, 3, by omega, by omega, rfl⟩⟩
theorem okn5 : Okn ⟨#[108, 111, 103, 46, 49, 48, 46, 49]⟩ := ⟨by decide, .inl ⟨10, 1, by omega, by omega, rfl⟩⟩
theorem okn6 : Okn ⟨#[108, 111, 103, 46, 48, 49, 46, 49]⟩ := ⟨by decide, .inr (by decide)⟩
theorem okn7 : Okn ⟨#[108, 111, 103, 46, 51]⟩ := ⟨by decide, .inr (by decide)⟩
theorem okn8 : Okn ⟨#[108, 111, 103, 46, 51, 46, 49, 120]⟩ := ⟨by decide, .inr (by decide)⟩
theorem okn9 : Okn ⟨#[111, 116, 104, 101, 114]⟩ := ⟨by decide, .inr (by decide)⟩
def nmsA : Array Value := #[.string ⟨#[108, 111, 103, 46, 49, 46, 49]⟩, .string ⟨#[108, 111, 103, 46, 49, 46, 50]⟩, .string ⟨#[108, 111, 103, 46, 50, 46, 49]⟩, .string ⟨#[108, 111, 103, 46, 50, 46, 50]⟩, .string ⟨#[108, 111, 103, 46, 50, 46, 51]⟩, .string ⟨#[108, 111, 103, 46, 49, 48, 46, 49]⟩, .string ⟨#[108, 111, 103, 46, 48, 49, 46, 49]⟩, .string ⟨#[108, 111, 103, 46, 51]⟩, .string ⟨#[108, 111, 103, 46, 51, 46, 49, 120]⟩, .string ⟨#[111, 116, 104, 101, 114]⟩]
theorem nms_at (q : Nat) (hq : q < 10) : ∃ nm, nmsA[q]? = some (.string nm) ∧ Okn nm ∧ 1 ≤ nm.size := by
  rcases q with _ | _ | _ | _ | _ | _ | _ | _ | _ | _ | q
  · exact ⟨_, rfl, okn0, by decide⟩
  · exact ⟨_, rfl, okn1, by decide⟩
  · exact ⟨_, rfl, okn2, by decide⟩
  · exact ⟨_, rfl, okn3, by decide⟩
  · exact ⟨_, rfl, okn4, by decide⟩
  · exact ⟨_, rfl, okn5, by decide⟩
  · exact ⟨_, rfl, okn6, by decide⟩
  · exact ⟨_, rfl, okn7, by decide⟩
  · exact ⟨_, rfl, okn8, by decide⟩
  · exact ⟨_, rfl, okn9, by decide⟩
  · omega
/-- A disk that counts no change, of a few files of such names. -/
structure Na (j : Nat) (d : DS) : Prop where
  left : d.left = -1
  off : d.off = false
  up : Up d.l
  len : d.l.length ≤ j
  nm : ∀ f, f ∈ d.l → Okn f.nm
theorem Na.start (q : Int) : Na 0 (newS q) := ⟨rfl, rfl, List.Pairwise.nil, Nat.le_refl _, fun f hf => by cases hf⟩
theorem Na.app {j : Nat} {d : DS} {nm : ByteArray} (h : Na j d) (hn : Okn nm) (zs : List Int) : Na (j + 1) (appS d nm zs) := by
  have hl := len_app (d := d) (nm := nm) (p := zs)
  have hj := h.len
  have hsp : d.spent = d := spent_free' h.left
  refine ⟨?_, ?_, up_app h.up nm zs, by omega, ?_⟩
  · unfold appS; rw [hsp]
    split
    · exact h.left
    · split
      · exact h.left
      · split
        · exact h.left
        · split
          · exact h.left
          · exact h.left
  · unfold appS; rw [hsp]
    split
    · exact h.off
    · split
      · exact h.off
      · split
        · exact h.off
        · split
          · exact h.off
          · exact h.off
  · unfold appS; rw [hsp]
    split
    · exact h.nm
    · split
      · exact h.nm
      · split
        · exact h.nm
        · split
          · exact h.nm
          · intro f hf
            rcases (mem_putF h.up).1 hf with e | ⟨e, _⟩
            · rw [e]; exact hn
            · exact h.nm f e
theorem Na.wider {j j' : Nat} {d : DS} (h : Na j d) (hj : j ≤ j') : Na j' d := ⟨h.left, h.off, h.up, Nat.le_trans h.len hj, h.nm⟩
theorem Na.sm {j : Nat} {d : DS} (h : Na j d) (hj : j ≤ 8) : Sm 18 d.l := ⟨by have := h.len; omega, fun f hf => by
  rcases (h.nm f hf).2 with ⟨g, k, hg, hk, e⟩ | e
  · exact .inl ⟨g, k, by omega, by omega, e⟩
  · exact .inr e⟩
section
variable {W w w' w0 : World} {Y : Nat → Prop} {p r N n c : Nat} {d d2 : DS} {nm : ByteArray} {A : Option Addr} {zs ps : List Int} {v : Value}
theorem Lb.papp (h : Lb W Y w p d r d2) (hs : nm.size ≤ 20) (hm : zs.length = n) (hc : A = none → c = 0) (hl : Lies w A zs) (hx : InX Y A zs) (hz : Octets zs) (hln : d.l.length ≤ 1000) :
    Calls Tryz.prog 30 #[.pointer (some ⟨p, 0, none⟩), .string nm, .slice A n c] w fun e w' => e = .returned (.int .i64 (appE d nm zs)) ∧ Lb W Y w' p (appS d nm zs) r d2 ∧ Kx Y w w' :=
  h.opP fun _ hq hY => append_q hq (by omega) hm hc hl (fun h0 a ha => hY _ (hx h0 a ha)) hz (by omega)
theorem Lb.rapp (h : Lb W Y w p d r d2) (hs : nm.size ≤ 20) (hm : zs.length = n) (hn : n ≤ 1000000) (hc : A = none → c = 0) (hl : Lies w A zs) (hx : InX Y A zs) (hz : Octets zs) (hln : d2.l.length ≤ 1000) :
    Calls Tryz.prog 31 #[.pointer (some ⟨r, 0, none⟩), .string nm, .slice A n c] w fun e w' => e = .returned (.int .i64 (appE d2 nm zs)) ∧ Lb W Y w' p d r (appS d2 nm zs) ∧ Kx Y w w' :=
  h.opR (P := fun e => e = .returned (.int .i64 (appE d2 nm zs))) fun _ ⟨ho, _, _, _, hR⟩ hT => rapp_any hR ho (by omega) hn (by omega) hm hc hl (fun h0 a ha hk => hT _ hk (hx h0 a ha)) hz
/-- Both disks the same, the names' row. -/
def Nx (W w : World) (p r N : Nat) (d : DS) : Prop := Lb W (Yb W N) w p d r d ∧ Row w N 9 nmsA
/-- Bytes of the call's own, made since a world. -/
def Dt (w0 w : World) (v : Value) (zs : List Int) : Prop := w.ownsRow w0.heap.size 5 1 v zs.length (cellsOf zs) ∧ Below w0.heap.size w0 w ∧ Octets zs
theorem Dt.nil (w : World) : Dt w w (.slice none 0 0) [] := ⟨World.ownsRow_nil _ _ _ _, Below.refl _ _, fun z hz => by cases hz⟩
/-- .. and they go into both disks. -/
def Ap (W w : World) (p r N : Nat) (d d2 : DS) (A : Option Addr) (n c : Nat) (zs : List Int) : Prop := ∃ Y, Lb W Y w p d r d2 ∧ Y N ∧ Row w N 9 nmsA ∧ zs.length = n ∧ (A = none → c = 0) ∧ Lies w A zs ∧ InX Y A zs ∧ Octets zs ∧ ∀ k, Yb W N k → Y k
theorem Ap.start (h : Nx W w0 p r N d) (hd : Dt w0 w v zs) : ∃ A c, v = .slice A zs.length c ∧ Ap W w p r N d d A zs.length c zs := by
  obtain ⟨ho, hb, hz⟩ := hd
  obtain ⟨h1, h2⟩ := h
  have hblk : ∀ k, v.ownBlock = some k → w0.heap.size ≤ k ∧ k < w.heap.size := fun k hk => ho.lt k hk
  obtain ⟨A, c, rfl, hc⟩ := own_shape ho
  refine ⟨A, c, rfl, fun k => Yb W N k ∨ (w0.heap.size ≤ k ∧ k < w.heap.size), h1.more hb (fun k hk => .inl (.inl hk)) fun _ hk => hk, .inl (.inr rfl), h2.below hb h2.lt, rfl, hc, Lies.of_own ho, fun h0 a ha => .inr ?_, hz, fun _ hk => .inl hk⟩
  subst ha
  exact hblk a.block rfl
theorem Ap.papp (h : Ap W w p r N d d2 A n c zs) (hs : nm.size ≤ 20) (hln : d.l.length ≤ 1000) :
    Calls Tryz.prog 30 #[.pointer (some ⟨p, 0, none⟩), .string nm, .slice A n c] w fun e w' => e = .returned (.int .i64 (appE d nm zs)) ∧ Ap W w' p r N (appS d nm zs) d2 A n c zs := by
  obtain ⟨Y, h1, h2, h3, h4, h5, h6, h7, h8, h9⟩ := h
  exact (h1.papp hs h4 h5 h6 h7 h8 hln).mono fun e w' ⟨g1, g2, g3⟩ => ⟨g1, Y, g2, h2, h3.same (g3.same h2 h3.lt), h4, h5, h6.kx g3 h7, h7, h8, h9⟩
theorem Ap.rapp (h : Ap W w p r N d d2 A n c zs) (hs : nm.size ≤ 20) (hn : n ≤ 1000000) (hln : d2.l.length ≤ 1000) (he : appS d2 nm zs = d) :
    Calls Tryz.prog 31 #[.pointer (some ⟨r, 0, none⟩), .string nm, .slice A n c] w fun e w' => e = .returned (.int .i64 (appE d2 nm zs)) ∧ Nx W w' p r N d := by
  obtain ⟨Y, h1, h2, h3, h4, h5, h6, h7, h8, h9⟩ := h
  exact (h1.rapp hs h4 hn h5 h6 h7 h8 hln).mono fun e w' ⟨g1, g2, g3⟩ => ⟨g1, (he ▸ g2).drop h9 fun _ hk => .inl hk, h3.same (g3.same h2 h3.lt)⟩
theorem oct_putR (h : Octets zs) (g : Octets ps) : Octets (putR zs ps) := octets_putF h g
theorem putR_len : (putR zs ps).length ≤ zs.length + ps.length + 6 := by
  unfold putR
  split
  · rw [List.length_append, length_frm]; omega
  · omega
/-- A frame behind the bytes. -/
theorem Dt.frame {B : Option Addr} {m k : Nat} (h : Dt w0 w v zs) (hm : ps.length = m) (hp : Lies w B ps) (hd : B = none → k = 0) (op : Octets ps) (h1 : zs.length ≤ 1000000) (h2 : m ≤ 1000000) :
    ∃ A c, v = .slice A zs.length c ∧ Calls Tryz.prog 28 #[.slice A zs.length c, .slice B m k] w fun e w' => ∃ A2 n2 c2, e = .returned (.slice A2 n2 c2) ∧ Dt w0 w' (.slice A2 n2 c2) (putR zs ps) := by
  obtain ⟨ho, hb, hz⟩ := h
  obtain ⟨A, c, rfl, hc⟩ := own_shape ho
  refine ⟨A, c, rfl, (rframe_any A zs.length c zs B m k ps w rfl (Lies.of_own ho) hc (by omega) (by omega) hm hp hd op).mono fun e w' ⟨A2, c2, g1, g2, g3⟩ => ⟨A2, _, c2, g1, own_mono g2 hb.size, kept_trans hb g3, oct_putR hz op⟩⟩
/-- A head: a number's frame. -/
theorem head_num (k : Int) (hk : 0 ≤ k ∧ k ≤ 2) (w : World) : Calls Tryz.prog 29 #[.slice none 0 0, .int .i64 k] w fun e w' => ∃ A c lq, e = .returned (.slice A lq c) ∧ (num7 k).length = lq ∧ El w' (num7 k) A c ∧ Below w.heap.size w w' :=
  (rnum_any none 0 0 [] k w rfl Lies.none_ (fun _ => rfl) (by omega) (by omega) (by omega)).mono fun e w' ⟨v, h1, h2, h3⟩ => by
    rw [List.nil_append, Nat.zero_add] at h2
    obtain ⟨A, c, rfl, _⟩ := own_shape h2
    exact ⟨A, c, _, h1, rfl, El.of_own h2, h3⟩
theorem head_frame {k : Int} {lq c : Nat} (hb : Below w0.heap.size w0 w) (hlq : (num7 k).length = lq) (hel : El w (num7 k) A c) :
    Calls Tryz.prog 28 #[.slice none 0 0, .slice A lq c] w fun e w' => ∃ A2 n2 c2, e = .returned (.slice A2 n2 c2) ∧ Dt w0 w' (.slice A2 n2 c2) (putR [] (num7 k)) :=
  have l9 := num7_len k
  (rframe_any none 0 0 [] A lq c (num7 k) w rfl Lies.none_ (fun _ => rfl) (by omega) (by omega) hlq hel.lies hel.nil (octets_num7 _)).mono fun _ _ ⟨A2, c2, g1, g2, g3⟩ => ⟨A2, _, c2, g1, own_mono g2 hb.size, kept_trans hb g3, oct_putR (fun z hz => by cases hz) (octets_num7 _)⟩
end
/-- Behind both Open: what they handed over, both disks. -/
def Th (W w : World) (p r : Nat) (d d2 : DS) (n : Nat) (A : Option Addr) (c : Nat) (A2 : Option Addr) (c2 : Nat) (L : List (List Int)) : Prop := Below W.heap.size W w ∧ L.length = n ∧ n ≤ 200000000 ∧ (∀ q, q ∈ L → q.length ≤ 16384) ∧ ∃ T X, Rk T w r d2 ∧ Dq X w p d ∧ (∀ k, k < W.heap.size → X k) ∧ (∀ k, T k → X k) ∧ (∃ Z, Recs Z w A c L) ∧ ∃ Z2, Recs Z2 w A2 c2 L ∧ ∀ k, Z2 k → X k
section
variable {W w w' : World} {p r P m n c c2 : Nat} {d d2 : DS} {A A2 : Option Addr} {L : List (List Int)}
theorem Th.low (h : Th W w p r d d2 n A c A2 c2 L) : Below W.heap.size W w := h.1
theorem Th.below (h : Th W w p r d d2 n A c A2 c2 L) (hb : Below w.heap.size w w') : Th W w' p r d d2 n A c A2 c2 L := by
  obtain ⟨h1, h2, h3, h4, T, X, h5, h6, h7, h8, ⟨Z, h9⟩, Z2, h10, h11⟩ := h
  exact ⟨kept_trans h1 hb, h2, h3, h4, T, X, h5.below hb, h6.below hb, h7, h8, ⟨Z, h9.below hb⟩, Z2, h10.below hb, h11⟩
theorem Th.lists (h : Th W w p r d d2 n A c A2 c2 L) : Calls Tryz.prog 26 #[.slice A n c, .slice A2 n c2] w fun e w' => e = .returned (.bool true) ∧ Th W w' p r d d2 n A c A2 c2 L := by
  have H := h
  obtain ⟨_, h2, h3, h4, T, X, _, _, _, _, ⟨Z, h9⟩, Z2, h10, _⟩ := h
  refine (lists_big h9 h10 h2 h2 (by omega) (by omega) (fun q hq => by have := h4 q hq; omega) (fun q hq => by have := h4 q hq; omega)).mono fun e w' ⟨g1, k, g2⟩ => ⟨?_, ?_⟩
  · rw [g1, decide_eq_true rfl]
  · rw [g2]; exact H.below (kept_drewN (kept_refl w) k)
theorem Th.alike (h : Th W w p r d d2 n A c A2 c2 L) (hl : d2.l.length ≤ 100) (hs : d2.l = d.l) : Calls Tryz.prog 27 #[.pointer (some ⟨p, 0, none⟩), .pointer (some ⟨r, 0, none⟩)] w fun e w' => e = .returned (.bool true) ∧ Th W w' p r d d2 n A c A2 c2 L := by
  have H := h
  obtain ⟨_, _, _, _, T, X, h5, h6, _⟩ := h
  exact (alike_any h6 h5 hl hs).mono fun e w' ⟨g1, g2⟩ => ⟨g1, H.below g2⟩
theorem Mw.ropen3 {x : WS} (h : Mw (fun k => k < W.heap.size) W w p r P d d2 x A c L) (hs : Sm m d2.l) (hm : m ≤ 60) (hE : opE d2 = 0) (hL : opL d2 = L) :
    Calls Tryz.prog 18 #[.pointer (some ⟨r, 0, none⟩)] w fun e w' => ∃ R A2 c2, e = .returned (.tuple #[.pointer (some ⟨R, 0, none⟩), .slice A2 (opL d2).length c2, .int .i64 0]) ∧ Th W w' p r d (opS d2) (opL d2).length A c A2 c2 L := by
  obtain ⟨h0, hy, T, Z, h1, h2, h3, h4, h5⟩ := h
  have hok := h1.ok
  refine (ropen_any h1 hs hm).mono fun e w' ⟨T', g1, ho, g3⟩ => ?_
  rcases g3 with ⟨g4, _⟩ | ⟨_, R, A2, c2, he, hR, hRT, hrow, hc2, hparts⟩
  · exact absurd hE g4
  · have hk : Kx (fun k => k < W.heap.size) w w' := ho.turn.mono h2
    have hq := h4.owned (X' := fun k => (k < W.heap.size ∨ T k) ∨ (w.heap.size ≤ k ∧ k < w'.heap.size)) (T := T) (fun k t => .inl (.inr t)) ho fun k hk2 => by
      rcases hk2 with y | f
      · exact .inl (.inl y)
      · exact .inr f
    rw [hL] at hparts hc2 he
    have hr2 := (Recs.of_parts hparts hc2 fun q hq => (opL_oct hok q (hL ▸ hq)).1).mono (Z := fun k => w.heap.size ≤ k ∧ k < w'.heap.size) fun k k1 k2 => ⟨k1, k2⟩
    rw [hL]
    refine ⟨R, A2, c2, he, h0.trans (hk.below h0.size hy), rfl, hL ▸ opL_len hok (by have := hs.len; omega), fun q hq => (opL_oct hok q (hL ▸ hq)).2, T', _, g1, hq.q.less (Y := fun k => (k < W.heap.size ∨ T k) ∨ (w.heap.size ≤ k ∧ k < w'.heap.size)) fun k hk => .inl hk, fun k hk => .inl (.inl hk), fun k t => ?_, ⟨Z, h5.kx (ho.turn.mono fun k t z => h3 k z t) fun _ z => z⟩, _, hr2, fun k hk => .inr hk⟩
    rcases ho.new k t with z | z
    · exact .inl (.inr z)
    · exact .inr ⟨z, g1.lt k t⟩
theorem Th.again (h : Th W w p r d d2 n A c A2 c2 L) (hs : Sm m d.l) (hm : m ≤ 60) (hE : opE d = 0) (hL : opL d = L) :
    Calls Tryz.prog 11 #[.pointer (some ⟨p, 0, none⟩)] w fun e w' => ∃ P A3 c3, e = .returned (.tuple #[.pointer (some ⟨P, 0, none⟩), .slice A3 n c3, .int .i64 0]) ∧ Th W w' p r (opS d) d2 n A3 c3 A2 c2 L := by
  obtain ⟨h1, h2, h3, h4, T, X, h5, h6, h7, h8, _, Z2, h10, h11⟩ := h
  refine (open_any h6 hs hm).mono fun e w' ⟨hk, h⟩ => ?_
  rcases h with ⟨g1, _⟩ | ⟨_, P, A3, c3, Z, he, hP, hZ, hq, hr⟩
  · exact absurd hE g1
  · rw [hL] at he hr
    rw [h2] at he
    exact ⟨P, A3, c3, he, h1.trans (hk.below h1.size h7), h2, h3, h4, T, X, h5.kept hk.size (fun k t => hk.same (h8 k t) (h5.lt k t)), hq.q.less (fun k hk => .inl (.inl hk)), h7, h8, ⟨Z, hr⟩, Z2, h10.kx hk h11, h11⟩
end
set_option maxRecDepth 100000 in
set_option maxHeartbeats 1000000 in
theorem light_dec {W w : World} {A : Option Addr} {m c : Nat} {it : Nat → Sb} (h : PartsIn W A m c it) (hb : Below W.heap.size W w) :
    Calls Tryz.prog 19 #[.agg #[.int .i64 0, .int .i64 0, .slice A m c, .slice none 0 0]] w fun e w' => e = .returned (.bool (decide (smL it m ≤ 9000))) ∧ Below w.heap.size w w' := by
  have hP := hide h
  have hmx : (m : Int) ≤ 9223372036854775807 := by have := h.le; have := h.room; omega
  have hB := hide (below_alloc' w (.cells #[.int .i64 0, .int .i64 0, .slice A m c, .slice none 0 0] 46))
  have hR := Row.new w 46 #[.int .i64 0, .int .i64 0, .slice A m c, .slice none 0 0]
  have q2 := hR.cell 2
  have q3 := hR.cell 3
  simp only [List.getElem?_toArray, List.getElem?_cons_zero, List.getElem?_cons_succ] at q2 q3
  have hlow := hide (kept_trans hb hB.out)
  clear h hR
  go_enter Tryz.func19, Tryz.ntmps19
  go_upto_region 1 with (fail)
  generalize hw1 : World.alloc _ _ = w1 at hB hlow q2 q3 ⊢
  clear hw1
  have hres := hide (fun (t : Bool) (h : decide (smL it m ≤ 9000) = t) => (show Ending.returned (.bool t) = Ending.returned (.bool (decide (smL it m ≤ 9000))) ∧ Below w.heap.size w w1 from ⟨by rw [h], hB.out⟩))
  clear hB
  generalize hgb : w.heap.size = gb at q2 q3 ⊢
  clear hgb
  go_wp2
  go_loopw [3, 4] (fun s i wr => ∃ (j : Nat), i = .int .i64 j ∧ s = .int .i64 (smL it j : Nat) ∧ j ≤ m ∧ smL it j ≤ 9000 ∧ w1 = wr) (fun _ i _ => m - (intOf i).toNat)
  case atStart => exact ⟨0, rfl, rfl, by omega, Nat.zero_le _, rfl⟩
  case round =>
    obtain ⟨j, rfl, rfl, hj, hs, rfl⟩ := hrel
    by_cases hlt : j < m
    · have t1 : decide ((j : Int) < (m : Int)) = true := by simp; omega
      have t2 : decide (j < m) = true := by simp; omega
      obtain ⟨b, off, rfl, hbl, hc, hin⟩ := hP.out.at_ j hlt
      have cw := (hlow.out.cell (p := ⟨b, off + j, none⟩) hbl).trans hc
      have hstep := hide (show smL it (j + 1) = smL it j + ((it j).zs.length + 1) from rfl)
      have hmono := hide (smL_le it (show j + 1 ≤ m by omega))
      have hlen := hin.len
      have hnb := hin.le
      have hroom := hin.room
      clear hc hin
      generalize (it j).A = A' at *
      generalize (it j).c = c' at *
      generalize (it j).zs = zs at *
      generalize (it j).n = nn at *
      obtain ⟨s2, hs2⟩ : ∃ v, smL it (j + 1) = v := ⟨_, rfl⟩
      have hs2' := hide hs2
      have hse : s2 = smL it j + (nn + 1) := by rw [← hs2, hstep.out, hlen]
      obtain ⟨s1, hs1⟩ : ∃ v, smL it j + nn = v := ⟨_, rfl⟩
      rw [hs2] at hmono
      clear hs2
      have x1 : IntKind.i64.wrap (((smL it j : Nat) : Int) + (nn : Int)) = (s1 : Int) := by rw [IntKind.wrap_i64]; omega
      have x2 : IntKind.i64.wrap ((s1 : Int) + 1) = (s2 : Int) := by rw [IntKind.wrap_i64]; omega
      have hcase : (decide ((9000 : Int) < (s2 : Int)) = true ∧ decide (9000 < s2) = true ∧ Hid (9000 < s2)) ∨ (decide ((9000 : Int) < (s2 : Int)) = false ∧ decide (9000 < s2) = false ∧ Hid (s2 ≤ 9000)) := by
        by_cases h9 : 9000 < s2
        · exact .inl ⟨decide_eq_true (by omega), decide_eq_true h9, h9⟩
        · exact .inr ⟨decide_eq_false (by omega), decide_eq_false h9, (show s2 ≤ 9000 by omega)⟩
      clear hse hs1 hlen hnb hroom hs
      generalize smL it j = s0 at *
      rcases hcase with ⟨y1, y2, y3⟩ | ⟨y1, y2, y3⟩
      · go_wp2
        go_ret
        exact hres.out false (decide_eq_false (by have := y3.out; have := hmono.out; omega))
      · go_wp2
        go_roundw
        case rel => exact ⟨j + 1, by go_num, by rw [hs2'.out], by omega, by rw [hs2'.out]; exact y3.out, by trivial⟩
        case measure => simp [intOf]; omega
    · obtain rfl : j = m := by omega
      have t1 : decide ((j : Int) < (j : Int)) = false := by simp
      have t2 : decide (j < j) = false := by simp
      have hs := hide hs
      clear hlt
      go_wp2
      go_ret
      exact hres.out true (decide_eq_true hs.out)
theorem IntsIn.at' {W w : World} {A : Option Addr} {n c j : Nat} {ps : List Int} (h : IntsIn W A n c ps) (hb : Below W.heap.size W w) (hj : j < n) : ∃ b off z, A = some ⟨b, off, none⟩ ∧ w.cell? ⟨b, off + j, none⟩ = some (.int .i64 z) ∧ -9223372036854775808 ≤ z ∧ z ≤ 9223372036854775807 := by
  have hl := h.len
  obtain ⟨b, off, e, hlt, hc⟩ := h.lies (by omega)
  refine ⟨b, off, ix ps j, e, (hb.cell (p := ⟨b, off + j, none⟩) hlt).trans (hc j (by omega)), h.ok _ ?_⟩
  unfold ix
  rw [List.getD_eq_getElem?_getD, List.getElem?_eq_getElem (by omega : j < ps.length)]
  exact List.getElem_mem _
theorem smL_each (it : Nat → Sb) {j m : Nat} (h : j < m) : (it j).zs.length ≤ smL it m := by
  have h1 := smL_le it (show j + 1 ≤ m by omega)
  have h2 : smL it (j + 1) = smL it j + ((it j).zs.length + 1) := rfl
  omega
theorem Nx.start {W w : World} {p r : Nat} {d : DS} (h : Lb W (fun k => k < W.heap.size) w p d r d) : Nx W (w.alloc (.cells #[.string ⟨#[108, 111, 103, 46, 49, 46, 49]⟩, .string ⟨#[108, 111, 103, 46, 49, 46, 50]⟩, .string ⟨#[108, 111, 103, 46, 50, 46, 49]⟩, .string ⟨#[108, 111, 103, 46, 50, 46, 50]⟩, .string ⟨#[108, 111, 103, 46, 50, 46, 51]⟩, .string ⟨#[108, 111, 103, 46, 49, 48, 46, 49]⟩, .string ⟨#[108, 111, 103, 46, 48, 49, 46, 49]⟩, .string ⟨#[108, 111, 103, 46, 51]⟩, .string ⟨#[108, 111, 103, 46, 51, 46, 49, 120]⟩, .string ⟨#[111, 116, 104, 101, 114]⟩] 9)) p r w.heap.size d :=
  ⟨h.more (below_alloc' w _) (fun _ hk => .inl hk) fun k hk => hk.imp id fun e => by subst e; exact ⟨Nat.le_refl _, by simp⟩, Row.new w _ nmsA⟩
theorem Nx.below {W w w' : World} {p r N : Nat} {d : DS} (h : Nx W w p r N d) (hb : Below w.heap.size w w') : Nx W w' p r N d := ⟨h.1.below hb, h.2.below hb h.2.lt⟩
theorem Nx.low {W w : World} {p r N : Nat} {d : DS} (h : Nx W w p r N d) : Below W.heap.size W w := h.1.low
theorem Nx.at' {W w : World} {p r N : Nat} {d : DS} (h : Nx W w p r N d) {q : Nat} (hq : q < 10) : ∃ nm, w.cell? ⟨N, q, none⟩ = some (.string nm) ∧ Okn nm ∧ 1 ≤ nm.size := by
  obtain ⟨nm, h1, h2, h3⟩ := nms_at q hq
  exact ⟨nm, (h.2.cell q).trans h1, h2, h3⟩
theorem Nx.lb {W w : World} {p r N : Nat} {d : DS} (h : Nx W w p r N d) : Lb W (fun k => k < W.heap.size) w p d r d := h.1.drop (fun _ hk => .inl hk) fun _ hk => hk
end Go.Proofs.YtkmcnhjfnjikaaaGreatDoor
/- WalOpens. No condition. -/
namespace Go.Proofs.YtkmcnhjfnjikaaaGreatDoor
open Go.RowKit Go.Maps
set_option maxRecDepth 100000 in
set_option maxHeartbeats 4000000 in
theorem opens_any (A : Option Addr) (m c : Nat) (it : Nat → Sb) (A1 : Option Addr) (n1 c1 : Nat) (zs1 : List Int) (A2 : Option Addr) (m2 c2 : Nat) (it2 : Nat → Sb) (W : World)
    (h : PartsIn W A m c it) (h1 : IntsIn W A1 n1 c1 zs1) (h2 : PartsIn W A2 m2 c2 it2) :
    Calls Tryz.prog 5 #[.slice A m c, .slice A1 n1 c1, .slice A2 m2 c2] W fun e w' => e = .returned (.bool true) ∧ Below W.heap.size W w' := by
  have hmx : (m : Int) ≤ 9223372036854775807 := by have := h.le; have := h.room; omega
  have hmx2 : (m2 : Int) ≤ 9223372036854775807 := by have := h2.le; have := h2.room; omega
  have hmx1 : (n1 : Int) ≤ 9223372036854775807 := by have := h1.le; have := h1.room; omega
  have hP := hide h
  have hI := hide h1
  have hE := hide h2
  have hruns := hide runs_any
  have q0 := hide (fun w => new_q 1048576 w (by omega))
  have q1 := hide (fun w => rnew_yes 1048576 w (by omega))
  have hl1 := hide (fun (w2 : World) (hb : Below W.heap.size W w2) => light_dec (w := w2) hP.out hb)
  have hl2 := hide (fun (w2 : World) (hb : Below W.heap.size W w2) => light_dec (w := w2) hE.out hb)
  clear h h1 h2
  go_enter Tryz.func5, Tryz.ntmps5
  go_upto_region 3 with (first
    | (go_at_call 10; (with_reducible refine (q0.out _).mono ?_); rintro e w1 ⟨p, rfl, hd, hb⟩; (have L1 := hide hd); (have B1 := hide hb); clear hd hb)
    | (go_at_call 17; (with_reducible refine (q1.out _).mono ?_); rintro e w2 ⟨rfl, hd, hb⟩; (have L2 := hide (both_new L1.out B1.out hd hb)); clear hd hb L1 B1))
  generalize w1.heap.size = r at *
  have hlow2 := hide L2.out.low
  by_cases hA : smL it m ≤ 9000
  case neg =>
    rw [decide_eq_false hA] at hl1
    clear hA hl2
    as_aux_lemma =>
      go_wp2_with (first
        | (go_at_call 19; (with_reducible refine (hl1.out _ hlow2.out).mono ?_); rintro e w3 ⟨rfl, hb⟩; (have B3 := hide (kept_trans hlow2.out hb)); clear hb)
        | (go_at_call 3; (with_reducible refine (hruns.out _).mono ?_); rintro e w4 ⟨rfl, hb4⟩; have B9 := hide (kept_trans B3.out hb4)))
      go_ret
      exact ⟨rfl, B9.out⟩
  by_cases hB : smL it2 m2 ≤ 9000
  case neg =>
    rw [decide_eq_true hA] at hl1
    rw [decide_eq_false hB] at hl2
    clear hA hB
    as_aux_lemma =>
      go_wp2_with (first
        | (go_at_call 19; (with_reducible refine (hl1.out _ hlow2.out).mono ?_); rintro e w3 ⟨rfl, hb⟩; (have B3 := hide (kept_trans hlow2.out hb)); clear hb hl1)
        | (go_at_call 19; (with_reducible refine (hl2.out _ B3.out).mono ?_); rintro e w4 ⟨rfl, hb⟩; (have B4 := hide (kept_trans B3.out hb)); clear hb)
        | (go_at_call 3; (with_reducible refine (hruns.out _).mono ?_); rintro e w5 ⟨rfl, hb4⟩; have B9 := hide (kept_trans B4.out hb4)))
      go_ret
      exact ⟨rfl, B9.out⟩
  rw [decide_eq_true hA] at hl1
  rw [decide_eq_true hB] at hl2
  have hA := hide hA
  have hB := hide hB
  go_upto_region 5 with (first
    | (go_at_call 19; (with_reducible refine (hl1.out _ hlow2.out).mono ?_); rintro e w3 ⟨rfl, hb⟩; (have B3 := hide (kept_trans hlow2.out hb)); (have L3 := hide (L2.out.below hb)); clear hb hl1 L2)
    | (go_at_call 19; (with_reducible refine (hl2.out _ B3.out).mono ?_); rintro e w4 ⟨rfl, hb⟩; (have L4 := hide (L3.out.below hb)); clear hb hl2 L3))
  clear B3 hlow2
  have S0 := hide (Nx.start L4.out)
  clear L4
  have F0 := hide (Na.start 1048576)
  go_upto_block 0 with (fail)
  generalize World.alloc _ _ = w5 at S0 ⊢
  generalize w4.heap.size = N at *
  generalize newS 1048576 = d0 at *
  obtain ⟨i0, hi, hy0, hy1, hy2⟩ := info_parts Tryz.info5
  have HI := hide (And.intro hi (And.intro hy0 (And.intro hy1 hy2)))
  clear hi hy0 hy1 hy2
  go_cut [12, 13, 14, 15] (fun _ _ _ _ wx => ∃ d, Lb W (fun k => k < W.heap.size) wx p d r d ∧ Na 8 d)
  case first =>
    go_wp2
    go_loopw [12] (fun i wr => ∃ (j : Nat) (d : DS), i = .int .i64 j ∧ j ≤ n1 ∧ j ≤ 8 ∧ Hid (Nx W wr p r N d) ∧ Hid (Na j d)) (fun i _ => 8 - (intOf i).toNat)
    case atStart => exact ⟨0, d0, rfl, by omega, by omega, S0, F0⟩
    case round =>
      clear S0 F0
      obtain ⟨j, d, rfl, hj, hj8, S, F⟩ := hrel
      by_cases hlt : j < n1 ∧ j < 8
      · obtain ⟨hlt1, hlt2⟩ := hlt
        have t1 : decide ((j : Int) < (n1 : Int)) = true := by simp; omega
        have t2 : decide (j < n1) = true := by simp; omega
        have t3 : decide ((j : Int) < 8) = true := by simp; omega
        have t4 : decide (j < 8) = true := by simp; omega
        obtain ⟨b, off, z, rfl, hz, hz0, hz1⟩ := hI.out.at' S.out.low hlt1
        have hwi := hide (fun w => within_any z 0 9 w (by omega) (by omega) (by omega))
        have hwb := withinI_bounds z 0 9 (by omega)
        obtain ⟨q, hq⟩ := Int.eq_ofNat_of_zero_le hwb.1
        rw [hq] at hwi
        have hq10 : q < 10 := by omega
        obtain ⟨nm, hnm, hok, hsz⟩ := S.out.at' hq10
        clear hwb hq
        have hwi2 := hide (fun w => within_any z 0 2 w (by omega) (by omega) (by omega))
        have hwb2 := withinI_bounds z 0 2 (by omega)
        generalize withinI z 0 2 = z2 at *
        have hok := hide hok
        have hnum := hide (head_num z2 hwb2)
        have hb0 := hide (Below.refl wr.heap.size wr)
        have hnl : nm.size ≤ 20 := hok.out.1
        clear hwb2
        go_upto_region 11 with (first
          | (go_at_call 16; (with_reducible refine (hwi.out _).mono ?_); rintro e w6 ⟨rfl, rfl⟩))
        clear hnm hwi
        obtain ⟨k, hk⟩ : ∃ k, nm.size = k + 1 := ⟨nm.size - 1, by omega⟩
        have hk1 : k < nm.size := by omega
        have hk2 : IntKind.i64.wrap ((nm.size : Int) - 1) = (k : Int) := by rw [IntKind.wrap_i64]; omega
        obtain ⟨t, ht⟩ : ∃ t, ((nm[k].toNat : Int) == 49) = t := ⟨_, rfl⟩
        go_upto_if 79 with (fail)
        go_cut [14] from 53 to 120 (fun s14 wx => ∃ zs, Dt wr wx s14 zs ∧ zs.length ≤ 100)
        case first =>
          cases t
          · as_aux_lemma =>
              go_wp2_with (fail)
              go_meet
              exact ⟨_, Dt.nil wr, by simp⟩
          · as_aux_lemma =>
              go_wp2_with (first
                | (go_at_call 16; (with_reducible refine (hwi2.out _).mono ?_); rintro e w6 ⟨rfl, rfl⟩)
                | (go_at_call 29; (with_reducible refine (hnum.out _).mono ?_); rintro e w7 ⟨A7, c7, lq, rfl, hlq, hel, hb7⟩; (have hlq := hide hlq); (have hel := hide hel); (have hb7 := hide hb7))
                | (go_at_call 28; (with_reducible refine (head_frame hb7.out hlq.out hel.out).mono ?_); rintro e w8 ⟨A8, n8, c8, rfl, hD⟩; (have D8 := hide hD); clear hD))
              go_meet
              refine ⟨_, D8.out, ?_⟩
              have h1 := @putR_len ([] : List Int) (num7 z2)
              have h2 := num7_len z2
              simp at h1
              omega
        case rest =>
          obtain ⟨zs, hD, hzl⟩ := hcut
          have hD := hide hD
          clear hz hwi2 hnum hb0
          go_upto_block 2 with (fail)
          go_cut [14, 15] from 53 to 120 (fun s14 _ wx => ∃ zs, Dt wr wx s14 zs ∧ zs.length ≤ 30000)
          case first =>
            as_aux_lemma =>
              go_wp2
              go_loopw [14, 15] (fun v i wx => ∃ (vv : Value) (k : Nat) (zs : List Int), vv = v ∧ i = .int .i64 k ∧ k ≤ m ∧ k ≤ 3 ∧ zs.length ≤ 100 + k * 9006 ∧ Hid (Dt wr wx vv zs)) (fun _ i _ => 3 - (intOf i).toNat)
              case atStart => exact ⟨_, 0, zs, rfl, rfl, by omega, by omega, by omega, hD⟩
              case round =>
                clear hD hzl
                obtain ⟨v, k, ys, rfl, rfl, hk, hk3, hyl, D⟩ := hrel
                by_cases hkt : k < m ∧ k < 3
                · obtain ⟨hk1, hk2⟩ := hkt
                  have u1 : decide ((k : Int) < (m : Int)) = true := by simp; omega
                  have u2 : decide (k < m) = true := by simp; omega
                  have u3 : decide ((k : Int) < 3) = true := by simp; omega
                  have u4 : decide (k < 3) = true := by simp; omega
                  have hbW := hide (kept_trans S.out.low D.out.2.1)
                  obtain ⟨b2, off2, rfl, hbl2, hat2, hin⟩ := hP.out.at_ k hk1
                  have cw := (hbW.out.cell (p := ⟨b2, off2 + k, none⟩) hbl2).trans hat2
                  have hpl := smL_each it hk1
                  have hpl9 := hA.out
                  have hpn := hin.len
                  obtain ⟨A7, c7, rfl, hfr⟩ := D.out.frame hin.len (hin.lies.below hbW.out) hin.nil hin.oct (by omega) (by omega)
                  have hfr := hide hfr
                  have hpl2 := @putR_len ys (it k).zs
                  have hnew := hide (show (putR ys (it k).zs).length ≤ 100 + (k + 1) * 9006 by omega)
                  clear hat2 hin hpl hpn hpl2 D hpl9
                  generalize (it k).zs = ps at *
                  generalize (it k).A = A9 at *
                  generalize (it k).n = m9 at *
                  generalize (it k).c = k9 at *
                  generalize ys.length = ly at *
                  go_wp2_with (first
                    | (go_at_call 28; (with_reducible refine hfr.out.mono ?_); rintro e w8 ⟨A8, n8, c8, rfl, hD⟩; (have D8 := hide hD); clear hD))
                  go_roundw
                  case rel => exact ⟨_, k + 1, _, rfl, by go_num, by omega, by omega, hnew.out, D8⟩
                  case measure => simp [intOf]; omega
                · have hyl : ys.length ≤ 30000 := by omega
                  by_cases hkm : k < m
                  · have u1 : decide ((k : Int) < (m : Int)) = true := by simp; omega
                    have u2 : decide (k < m) = true := by simp; omega
                    have u3 : decide ((k : Int) < 3) = false := by simp; omega
                    have u4 : decide (k < 3) = false := by simp; omega
                    clear hkt
                    go_wp2
                    go_meet
                    exact ⟨ys, D.out, hyl⟩
                  · have u1 : decide ((k : Int) < (m : Int)) = false := by simp; omega
                    have u2 : decide (k < m) = false := by simp; omega
                    clear hkt
                    go_wp2
                    go_meet
                    exact ⟨ys, D.out, hyl⟩
          case rest =>
            clear hD hzl
            obtain ⟨zs, hD, hzl⟩ := hcut
            have hD := hide hD
            obtain ⟨t, ht⟩ : ∃ t, decide (j < m2) = t := ⟨_, rfl⟩
            have ht1 : decide ((j : Int) < (m2 : Int)) = t := by rw [← ht]; simp
            have hjt := hide (show t = true → j < m2 from fun e => by rw [e] at ht; exact of_decide_eq_true ht)
            go_upto_if 106 with (fail)
            clear ht ht1
            go_cut [14] from 53 to 120 (fun s14 wx => ∃ zs, Dt wr wx s14 zs ∧ zs.length ≤ 40000)
            case first =>
              as_aux_lemma =>
                cases t
                case true =>
                  have hjm := hjt.out rfl
                  have hbW := hide (kept_trans S.out.low hD.out.2.1)
                  obtain ⟨b2, off2, rfl, hbl2, hat2, hin⟩ := hE.out.at_ j hjm
                  have cw := (hbW.out.cell (p := ⟨b2, off2 + j, none⟩) hbl2).trans hat2
                  have hpl := smL_each it2 hjm
                  have hpl9 := hB.out
                  have hpn := hin.len
                  have hel := hide (hin.lies.below hbW.out)
                  have hnil := hide hin.nil
                  have hoct := hide hin.oct
                  clear hat2 hin hpl9
                  obtain ⟨ly, hly⟩ : ∃ n, zs.length = n := ⟨_, rfl⟩
                  have ho := hide hD.out.1
                  rw [hly] at ho
                  obtain ⟨A7, c7, rfl, hc7⟩ := own_shape ho.out
                  generalize (it2 j).zs = ps at *
                  generalize (it2 j).A = A9 at *
                  generalize (it2 j).n = m9 at *
                  generalize (it2 j).c = k9 at *
                  have hpn' := hide hpn
                  have hly' := hide hly
                  clear hc7
                  go_wp2_with (at_builtin; refine wpList_append_lies rfl (.tmp 107) (.tmp 111) 31 rfl wr.heap.size 5 i0 _ Tryz.underlying31 HI.out.1 HI.out.2.1 HI.out.2.2.1 HI.out.2.2.2 rfl _ ly zs rfl ho.out A9 m9 k9 ps rfl hpn'.out hnil.out hel.out (by omega) hD.out.2.1.size ?_)
                  intro v2 w2 o2 k2
                  have D2 := hide (show Dt wr w2 v2 (zs ++ ps) from ⟨by rw [List.length_append, hly'.out, hpn'.out]; exact o2, hD.out.2.1.trans k2, fun z hz => by
                    rcases List.mem_append.1 hz with h | h
                    · exact hD.out.2.2 z h
                    · exact hoct.out z h⟩)
                  clear o2 k2
                  go_wp2
                  go_meet
                  exact ⟨zs ++ ps, D2.out, by rw [List.length_append]; omega⟩
                case false =>
                  go_wp2
                  go_meet
                  exact ⟨zs, hD.out, by omega⟩
            case rest =>
              clear hD hzl
              obtain ⟨zs, hD, hzl⟩ := hcut
              obtain ⟨A7, c7, rfl, hAp⟩ := Ap.start S.out hD
              have hdl := hide (show d.l.length ≤ 1000 by have := F.out.len; omega)
              have F2 := hide (F.out.app hok.out zs)
              have H1 := hide (hAp.papp (nm := nm) hnl hdl.out)
              have H2 := hide (fun w2 (h : Ap W w2 p r N (appS d nm zs) d A7 zs.length c7 zs) => h.rapp (nm := nm) hnl (by omega) hdl.out rfl)
              clear hAp hD S F hzl
              generalize appS d nm zs = d2 at *
              generalize appE d nm zs = eo at *
              generalize zs.length = lz at *
              go_wp2_with (first
                | (go_at_call 30; (with_reducible refine H1.out.mono ?_); rintro e w7 ⟨rfl, h⟩; (have T1 := hide (H2.out _ h)); clear h H1 H2)
                | (go_at_call 31; (with_reducible refine T1.out.mono ?_); rintro e w8 ⟨rfl, h⟩; (have S8 := hide h); clear h T1))
              go_roundw
              case rel => exact ⟨j + 1, _, by go_num, by omega, by omega, S8, F2⟩
              case measure => simp [intOf]; omega
      · by_cases hjm2 : j < n1
        · have t1 : decide ((j : Int) < (n1 : Int)) = true := by simp; omega
          have t2 : decide (j < n1) = true := by simp; omega
          have t3 : decide ((j : Int) < 8) = false := by simp; omega
          have t4 : decide (j < 8) = false := by simp; omega
          clear hlt
          go_wp2
          go_meet
          exact ⟨d, S.out.lb, F.out.wider (by omega)⟩
        · have t1 : decide ((j : Int) < (n1 : Int)) = false := by simp; omega
          have t2 : decide (j < n1) = false := by simp; omega
          clear hlt
          go_wp2
          go_meet
          exact ⟨d, S.out.lb, F.out.wider (by omega)⟩
  case rest =>
  obtain ⟨d, hL, hF⟩ := hcut
  clear S0 F0 hA hB hP hI hE HI
  have hokd := hL.okL
  have hs := hF.sm (by omega)
  obtain ⟨e1, hs1, hu1, e2, e3, e4⟩ := op_again hokd hF.left hF.off hs (by omega)
  have hl2 : (opS d).l.length ≤ 100 := by have := hs1.len; omega
  have H1 := hide (hL.popen hs (by omega) e1)
  have H2 := hide (fun w2 P A c (h : Mw (fun k => k < W.heap.size) W w2 p r P (opS d) d ⟨opG d, (opZ d).k, false⟩ A c (opL d)) => h.ropen3 hs (by omega) e1 rfl)
  have H3 := hide (fun w2 A c A2 c2 (h : Th W w2 p r (opS d) (opS d) (opL d).length A c A2 c2 (opL d)) => h.alike hl2 rfl)
  have H4 := hide (fun w2 A c A2 c2 (h : Th W w2 p r (opS d) (opS d) (opL d).length A c A2 c2 (opL d)) => h.again hs1 (by omega) e2 e3)
  have H5 := hide (fun w2 A c A2 c2 (h : Th W w2 p r (opS (opS d)) (opS d) (opL d).length A c A2 c2 (opL d)) => h.alike hl2 e4.symm)
  clear hL hF hokd hs e1 e2 e3 e4 hs1 hu1 hl2
  generalize (opL d).length = ln at *
  go_upto_region 23 with (first
    | (go_at_call 11; (with_reducible refine H1.out.mono ?_); rintro e w7 ⟨P2, A5, c5, rfl, hM, -⟩; (have M0 := hide (H2.out _ _ _ _ hM)); clear hM H1 H2)
    | (go_at_call 18; (with_reducible refine M0.out.mono ?_); rintro e w8 ⟨R2, A6, c6, rfl, hT⟩; (have T1 := hide hT); clear hT M0))
  go_upto_region 25 with (first
    | (go_at_call 26; (with_reducible refine T1.out.lists.mono ?_); rintro e w9 ⟨rfl, h⟩; (have T2 := hide (H3.out _ _ _ _ _ h)); (have T2b := hide h); clear h T1 H3)
    | (go_at_call 27; (with_reducible refine T2.out.mono ?_); rintro e w10 ⟨rfl, h⟩; (have T3 := hide (H4.out _ _ _ _ _ h)); clear h T2 H4 T2b))
  go_wp2_with (first
    | (go_at_call 11; (with_reducible refine T3.out.mono ?_); rintro e w11 ⟨P3, A8, c8, rfl, h⟩; (have T4 := hide h); clear h T3)
    | (go_at_call 26; (with_reducible refine T4.out.lists.mono ?_); rintro e w12 ⟨rfl, h⟩; (have T5 := hide (H5.out _ _ _ _ _ h)); clear h T4 H5)
    | (go_at_call 27; (with_reducible refine T5.out.mono ?_); rintro e w13 ⟨rfl, h⟩; (have T6 := hide h); clear h T5)
    | (go_at_call 3; (with_reducible refine (hruns.out _).mono ?_); rintro e w14 ⟨rfl, hb4⟩; have B9 := hide (kept_trans T6.out.low hb4)))
  go_ret
  exact ⟨rfl, B9.out⟩
end Go.Proofs.YtkmcnhjfnjikaaaGreatDoor
