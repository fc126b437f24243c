/- What the document's found reads, without a program. No condition. -/
import Derived.Test.YtkmcnhjfnjikaaaGreatDoorVgoo
import Derived.Test.YtkmcnhjfnjikaaaGreatDoorRone
import Derived.LoopTactic
import Derived.Deep.DeepCutAuto
import Derived.Deep.CutBlock
namespace Go.Proofs.YtkmcnhjfnjikaaaGreatDoor
/-- A head's number, if there is nothing but one, not below 0. -/
def headB (p : List Int) : Bool := decide (rNumE p 0 0 = 0) && (decide (rEndE p (rNumA p 0 0) (rNumE p 0 0) = 0) && decide (0 ≤ rNumV p 0 0))
theorem enough_head {p : List Int} (n : Nat) (hv : rNumV p 0 0 ≤ maxI) : enough p n = (headB p && decide (rNumV p 0 0 ≤ (n : Int))) := by
  have a1 : rNumE p 0 0 = rdE p := by unfold rNumE; rw [if_pos rfl, List.drop_zero]
  have a2 : rNumV p 0 0 = if rdE p = 0 then rdV p else 0 := by unfold rNumV; rw [a1, List.drop_zero]
  have a3 : rNumA p 0 0 = if rdE p = 0 then 0 + rdS p else 0 := by unfold rNumA; rw [a1, List.drop_zero]
  have b1 : rCntE p 0 0 maxI = cntE p maxI := by unfold rCntE; rw [if_pos rfl, List.drop_zero]
  have b2 : rCntV p 0 0 maxI = if cntE p maxI = 0 then rdV p else 0 := by unfold rCntV; rw [b1, List.drop_zero]
  have b3 : rCntA p 0 0 maxI = if cntE p maxI = 0 then 0 + rdS p else 0 := by unfold rCntA; rw [b1, List.drop_zero]
  unfold enough headB
  rw [b1, b2, b3, a1, a2, a3]
  rw [a2] at hv
  by_cases he : rdE p = 0
  · rw [if_pos he] at hv
    rw [he]
    simp only [if_true]
    by_cases h0 : rdV p < 0
    · have c0 : cntE p maxI = 2 := by unfold cntE; rw [if_pos he, if_pos (Or.inl h0)]
      have e1 : decide (0 ≤ rdV p) = false := by simp; omega
      rw [c0, e1]
      simp [rEndE]
    · have c0 : cntE p maxI = 0 := by unfold cntE; rw [if_pos he, if_neg (by omega)]
      have e1 : decide (0 ≤ rdV p) = true := by simp; omega
      rw [c0, e1]
      simp
  · have c0 : cntE p maxI = rdE p := by unfold cntE; rw [if_neg he]
    rw [c0, if_neg he, if_neg he, decide_eq_false he]
    simp [rEndE, he]
/-- Reading is under way at segment k. -/
structure Fo (l : List Fl) (g k : Nat) (s : Gs) : Prop where
  k1 : 1 ≤ k
  has : ∀ j, 1 ≤ j → j < k → (find (segN g j) l).isSome = true
  gen : gen l g = rd l g (l.length + 3 - k) k s
  sk : s.k + 1 = k
  full : s.n ≤ s.u
section
variable {l : List Fl} {g k : Nat} {s : Gs} {x : Fl}
theorem Fo.start (l : List Fl) (g : Nat) : Fo l g 1 Gs.zero := ⟨Nat.le_refl _, fun j h1 h2 => by omega, rfl, rfl, Nat.le_refl _⟩
theorem Fo.le (h : Fo l g k s) (hu : Up l) (hg : 1 ≤ g ∧ g < 100) (hk : k < 100) : k ≤ l.length + 1 := by
  have := found_le hg hu (k := k - 1) (by omega) fun j h1 h2 => h.has j h1 (by omega)
  omega
theorem Fo.stop (h : Fo l g k s) (hf : find (segN g k) l = none) (hk : k ≤ l.length + 1) : Go.Proofs.YtkmcnhjfnjikaaaGreatDoor.gen l g = s := by
  rw [h.gen]
  obtain ⟨f, hf2⟩ : ∃ f, l.length + 3 - k = f + 1 := ⟨l.length + 2 - k, by omega⟩
  rw [hf2]
  unfold rd
  rw [hf]
theorem Fo.step (h : Fo l g k s) (hf : find (segN g k) l = some x) (hk : k ≤ l.length + 1) : Go.Proofs.YtkmcnhjfnjikaaaGreatDoor.gen l g = if (s.more k x.dt).ends = true then s.more k x.dt else rd l g (l.length + 3 - (k + 1)) (k + 1) (s.more k x.dt) := by
  rw [h.gen]
  obtain ⟨f, hf2⟩ : ∃ f, l.length + 3 - k = f + 1 := ⟨l.length + 2 - k, by omega⟩
  rw [hf2, show l.length + 3 - (k + 1) = f by omega]
  rw [show rd l g (f + 1) k s = (match find (segN g k) l with | none => s | some x => if (s.more k x.dt).ends = true then s.more k x.dt else rd l g f (k + 1) (s.more k x.dt)) from rfl, hf]
theorem Fo.more (h : Fo l g k s) (hf : find (segN g k) l = some x) (hk : k ≤ l.length + 1) (he : (s.more k x.dt).ends = false) : Fo l g (k + 1) (s.more k x.dt) := by
  refine ⟨by omega, fun j h1 h2 => ?_, ?_, rfl, ?_⟩
  · rcases Nat.lt_or_ge j k with h3 | h3
    · exact h.has j h1 h3
    · obtain rfl : j = k := by omega
      rw [hf]; rfl
  · rw [h.step hf hk, he]; rfl
  · unfold Gs.ends at he
    simp only [Bool.or_eq_false_iff, decide_eq_false_iff_not] at he
    omega
end
/-- What found has read ahead of segment k: what it keeps, the head's number (-1: none). -/
def Fv (l : List Fl) (g k : Nat) (out : List (List Int)) (n : Int) : Prop :=
  (∀ j, 1 ≤ j → j < k → (find (segN g j) l).isSome = true) ∧ ((k = 1 ∧ out = [] ∧ n = -1) ∨ (2 ≤ k ∧ ∃ s p, Fo l g k s ∧ s.L = p :: out ∧ headB p = true ∧ n = rNumV p 0 0 ∧ n ≤ maxI) ∨ (2 ≤ k ∧ n = -1 ∧ whole l g = false))
/-- What found tells: the records, the last segment, where it is cut (-1: nowhere), is it whole. -/
def Fe (l : List Fl) (g : Nat) (out : List (List Int)) (last : Nat) (e : Int) (n : Int) : Prop :=
  ((whole l g = true ∧ out = (gen l g).L.tail ∧ last = (gen l g).k ∧ e = (if (gen l g).u < (gen l g).n then ((gen l g).u : Int) else -1)) ∧ 0 ≤ n ∧ n ≤ out.length) ∨ (whole l g = false ∧ ¬ (0 ≤ n ∧ n ≤ (out.length : Int)))
section
variable {l : List Fl} {g k : Nat} {out : List (List Int)} {n : Int} {x : Fl}
theorem head_pos {p : List Int} (h : headB p = true) : 0 ≤ rNumV p 0 0 := by
  unfold headB at h
  simp only [Bool.and_eq_true, decide_eq_true_eq] at h
  exact h.2.2
theorem wholeG_cons {s : Gs} {p : List Int} {out : List (List Int)} (hL : s.L = p :: out) (hh : headB p = true) (hm : rNumV p 0 0 ≤ maxI) : wholeG s = decide (rNumV p 0 0 ≤ (out.length : Int)) := by
  unfold wholeG
  rw [hL]
  dsimp only
  rw [enough_head _ hm, hh, Bool.true_and]
theorem Fe.of {s : Gs} {p : List Int} {last : Nat} {e : Int} (hg : gen l g = s) (hL : s.L = p :: out) (hh : headB p = true) (hm : rNumV p 0 0 ≤ maxI) (h1 : last = s.k) (h2 : e = if s.u < s.n then (s.u : Int) else -1) : Fe l g out last e (rNumV p 0 0) := by
  have hw : whole l g = decide (rNumV p 0 0 ≤ (out.length : Int)) := by unfold whole; rw [hg]; exact wholeG_cons hL hh hm
  have h0 := head_pos hh
  by_cases hc : rNumV p 0 0 ≤ (out.length : Int)
  · exact .inl ⟨⟨by rw [hw, decide_eq_true hc], by rw [hg, hL]; rfl, by rw [hg]; exact h1, by rw [hg]; exact h2⟩, h0, hc⟩
  · exact .inr ⟨by rw [hw, decide_eq_false hc], fun h => hc h.2⟩
theorem Fe.lost {last : Nat} {e : Int} (h : whole l g = false) : Fe l g out last e (-1) := .inr ⟨h, by omega⟩
theorem Fv.start (l : List Fl) (g : Nat) : Fv l g 1 [] (-1) := ⟨fun j h1 h2 => by omega, .inl ⟨rfl, rfl, rfl⟩⟩
theorem Fv.le (h : Fv l g k out n) (hu : Up l) (hg : 1 ≤ g ∧ g < 100) (hk : k < 100) (h1 : 1 ≤ k) : k ≤ l.length + 1 := by
  have := found_le hg hu (k := k - 1) (by omega) fun j h2 h3 => h.1 j h2 (by omega)
  omega
theorem Fv.stop (h : Fv l g k out n) (h1 : 1 ≤ k) (hf : find (segN g k) l = none) (hk : k ≤ l.length + 1) : Fe l g out (k - 1) (-1) n := by
  rcases h.2 with ⟨rfl, rfl, rfl⟩ | ⟨_, s, p, hs, hL, hh, rfl, hm⟩ | ⟨_, rfl, hw⟩
  · exact Fe.lost (whole_none hf)
  · refine Fe.of (hs.stop hf hk) hL hh hm (by have := hs.sk; omega) ?_
    have := hs.full
    rw [if_neg (by omega)]
  · exact Fe.lost hw
theorem Fv.has (h : Fv l g k out n) (hf : find (segN g k) l = some x) : ∀ j, 1 ≤ j → j < k + 1 → (find (segN g j) l).isSome = true := fun j h1 h2 => by
  rcases Nat.lt_or_ge j k with h3 | h3
  · exact h.1 j h1 h3
  · obtain rfl : j = k := by omega
    rw [hf]; rfl
/-- A segment more, not the first. -/
theorem Fv.next (h : Fv l g k out n) (h2 : 2 ≤ k) (hf : find (segN g k) l = some x) (hk : k ≤ l.length + 1) :
    (¬ fpl x.dt < x.dt.length → Fv l g (k + 1) (out ++ frs x.dt) n) ∧ (fpl x.dt < x.dt.length → Fe l g (out ++ frs x.dt) k (fpl x.dt) n) := by
  have hh := h.has hf
  rcases h.2 with ⟨h1, _⟩ | ⟨_, s, p, hs, hL, hp, rfl, hm⟩ | ⟨_, rfl, hw⟩
  · omega
  · have hL2 : (s.more k x.dt).L = p :: (out ++ frs x.dt) := by unfold Gs.more; rw [hL]; rfl
    refine ⟨fun hc => ⟨hh, .inr (.inl ⟨by omega, _, p, hs.more hf hk ?_, hL2, hp, rfl, hm⟩)⟩, fun hc => ?_⟩
    · unfold Gs.ends; rw [hL2]; simp [Gs.more, hc]
    · have he : (s.more k x.dt).ends = true := by unfold Gs.ends; simp [Gs.more, hc]
      have hg := hs.step hf hk
      rw [if_pos he] at hg
      exact Fe.of hg hL2 hp hm rfl (by show _ = if fpl x.dt < x.dt.length then _ else _; rw [if_pos hc]; rfl)
  · exact ⟨fun _ => ⟨hh, .inr (.inr ⟨by omega, rfl, hw⟩)⟩, fun _ => Fe.lost hw⟩
/-- The first segment, without a head. -/
theorem Fv.none_ (h : Fv l g 1 out n) (hf : find (segN g 1) l = some x) (h0 : frs x.dt = []) (hk : 1 ≤ l.length + 1) :
    n = -1 ∧ out = [] ∧ (¬ fpl x.dt < x.dt.length → Fv l g 2 [] (-1)) ∧ (fpl x.dt < x.dt.length → Fe l g [] 1 (fpl x.dt) (-1)) := by
  have hh := h.has hf
  rcases h.2 with ⟨_, rfl, rfl⟩ | ⟨h1, _⟩ | ⟨h1, _⟩
  · have he : (Gs.zero.more 1 x.dt).ends = true := by unfold Gs.ends Gs.more; rw [h0]; rfl
    have hg := (Fo.start l g).step hf hk
    rw [if_pos he] at hg
    have hw : whole l g = false := by unfold whole; rw [hg]; unfold wholeG Gs.more; rw [h0]; rfl
    exact ⟨rfl, rfl, fun _ => ⟨hh, .inr (.inr ⟨by omega, rfl, hw⟩)⟩, fun _ => Fe.lost hw⟩
  · omega
  · omega
/-- The first segment, with one. -/
theorem Fv.head (hf : find (segN g 1) l = some x) {p : List Int} {r : List (List Int)} (h0 : frs x.dt = p :: r) (hm : rNumV p 0 0 ≤ maxI) :
    (headB p = false → whole l g = false) ∧ (headB p = true → (¬ fpl x.dt < x.dt.length → Fv l g 2 r (rNumV p 0 0)) ∧ (fpl x.dt < x.dt.length → Fe l g r 1 (fpl x.dt) (rNumV p 0 0))) := by
  have hL : (Gs.zero.more 1 x.dt).L = p :: r := by unfold Gs.more; rw [h0]; rfl
  have hst := (Fo.start l g).step hf (by omega)
  refine ⟨fun hp => ?_, fun hp => ⟨fun hc => ?_, fun hc => ?_⟩⟩
  · have : ∀ f k (s : Gs), (∃ r, s.L = p :: r) → ∃ r, (rd l g f k s).L = p :: r := by
      intro f
      induction f with
      | zero => intro k s h; exact h
      | succ f ih =>
        intro k s ⟨r, hr⟩
        unfold rd
        cases find (segN g k) l with
        | none => exact ⟨r, hr⟩
        | some y =>
          dsimp only
          have h2 : ∃ r, (s.more k y.dt).L = p :: r := ⟨r ++ frs y.dt, by unfold Gs.more; rw [hr]; rfl⟩
          split
          · exact h2
          · exact ih _ _ h2
    have h3 : ∃ r, (gen l g).L = p :: r := by
      rw [hst]
      split
      · exact ⟨r, hL⟩
      · exact this _ _ _ ⟨r, hL⟩
    obtain ⟨r2, h3⟩ := h3
    unfold whole wholeG
    rw [h3]
    dsimp only
    rw [enough_head _ hm, hp, Bool.false_and]
  · refine ⟨fun j h1 h2 => by obtain rfl : j = 1 := by omega
                              rw [hf]; rfl, .inr (.inl ⟨Nat.le_refl _, _, p, (Fo.start l g).more hf (by omega) ?_, hL, hp, rfl, hm⟩)⟩
    unfold Gs.ends; rw [hL]; simp [Gs.more, hc]
  · have he : (Gs.zero.more 1 x.dt).ends = true := by unfold Gs.ends; simp [Gs.more, hc]
    rw [if_pos he] at hst
    exact Fe.of hst hL hp hm rfl (by show _ = if fpl x.dt < x.dt.length then _ else _; rw [if_pos hc]; rfl)
end
end Go.Proofs.YtkmcnhjfnjikaaaGreatDoor
/- What the document's reader's End, its disk's Read come to; how found goes through a segment. Conditions as the calls' own. -/
namespace Go.Proofs.YtkmcnhjfnjikaaaGreatDoor
open Go.RowKit Go.Maps
theorem headB_end (p : List Int) : headB p = (decide (rEndE p (rNumA p 0 0) (rNumE p 0 0) = 0) && decide (0 ≤ rNumV p 0 0)) := by
  unfold headB
  by_cases h : rNumE p 0 0 = 0
  · rw [decide_eq_true h, Bool.true_and]
  · have e : rEndE p (rNumA p 0 0) (rNumE p 0 0) = rNumE p 0 0 := by unfold rEndE; rw [if_neg h]
    rw [e, decide_eq_false h]; rfl
theorem rNumV_le {p : List Int} (ho : Octets p) : -9223372036854775808 ≤ rNumV p 0 0 ∧ rNumV p 0 0 ≤ maxI := by
  have h := rd_bounds (zs := p.drop 0) (by rw [List.drop_zero]; exact ho)
  unfold rNumV maxI
  split
  · exact ⟨h.1, h.2.1⟩
  · omega
section
variable {w : World} {B g i : Nat} {zs : List Int} {e : Int}
set_option maxRecDepth 100000 in
set_option maxHeartbeats 1000000 in
theorem rend_to (h : Rdr 156 w B g zs i e) :
    Calls Tryz.prog 93 #[.pointer (some ⟨g, 0, none⟩)] w fun x w' => x = .returned (.int .i64 (rEndE zs i e)) ∧ Rdr 156 w' B g zs i (rEndE zs i e) ∧ w.grownBy w' (some g) := by
  obtain ⟨A, c, c0, c1, c2, f1, f2, lc, l, hz⟩ := h.cells
  have H := hide h
  clear h hz
  by_cases he : e = 0
  · subst he
    have hF := hide fun q => rfail_0 (H.out.drewN q)
    by_cases hi : i < zs.length
    · have ee : rEndE zs i 0 = 5 := by unfold rEndE; rw [if_pos rfl, if_pos hi]
      rw [ee]
      have t1 : decide (i < zs.length) = true := decide_eq_true hi
      clear ee
      go_enter Tryz.func93, Tryz.ntmps93
      go_wp2
      go_quiet (fail)
      go_wp2_with (go_at_call 110; (with_reducible refine (hF.out _ 5 (by omega)).mono ?_); rintro x w1 ⟨rfl, h1, hg1⟩; obtain ⟨A', c', c0', c1', c2', f1', f2', _, _, _⟩ := h1.cells; have h1' := hide h1; have hg' := hide hg1; clear h1 hg1)
      go_ret
      exact ⟨rfl, h1'.out, grown_trans (grown_drewN (grown_refl w _) _) hg'.out⟩
    · have ee : rEndE zs i 0 = 0 := by unfold rEndE; rw [if_pos rfl, if_neg hi]
      rw [ee]
      have t1 : decide (i < zs.length) = false := decide_eq_false hi
      clear ee
      go_enter Tryz.func93, Tryz.ntmps93
      go_wp2
      go_quiet (fail)
      go_wp2
      go_ret
      exact ⟨rfl, H.out.drewN _, grown_drewN (grown_refl w _) _⟩
  · have ee : rEndE zs i e = e := by unfold rEndE; rw [if_neg he]
    rw [ee]
    have t0 : (e == 0) = false := by rw [beq_eq_false_iff_ne]; exact he
    clear he ee
    go_enter Tryz.func93, Tryz.ntmps93
    go_wp2
    go_quiet (fail)
    go_wp2
    go_ret
    exact ⟨rfl, H.out.drewN _, grown_drewN (grown_refl w _) _⟩
end
section
variable {S : Nat → Prop} {w : World} {g : Nat} {R : List (Fl × Ps)} {A : Option Addr} {c : Nat} {d : DS} {nm : ByteArray}
set_option maxHeartbeats 1000000 in
theorem rread_cap (h : Rp S w g R A c d) (hu : Up d.l) (hln : d.l.length ≤ 1000000) {f : Fl} (hf : find nm d.l = some f) :
    Calls Tryz.prog 55 #[.pointer (some ⟨g, 0, none⟩), .string nm] w fun e w' => (∃ B cb, e = .returned (.tuple #[.slice B f.dt.length cb, .bool true]) ∧ Lies w B f.dt ∧ f.dt.length ≤ cb) ∧ w = w' := by
  obtain ⟨k, hk, hn⟩ := find_ix hf
  have HA := hide (at_yes h hu hln hk hn)
  have c0 : w.cell? ⟨g, 0, none⟩ = some (.slice A d.l.length c) := h.row.cell 0
  obtain ⟨b, off, s, rfl, hs, hkl, n0, n1, n2⟩ := h.at_ hk
  have H := hide (show Lies w s.A f.dt ∧ f.dt.length ≤ s.2 from by
    have ho := h.dat _ (List.mem_of_getElem? hs)
    exact ⟨Lies.of_own ho, (own_len ho).2⟩)
  clear h hf hu hk hs
  go_enter Tryz.func55, Tryz.ntmps55
  go_wp2_with (go_at_call 94; (with_reducible refine HA.out.mono ?_); rintro e w' ⟨rfl, rfl⟩)
  go_ret2
  exact ⟨⟨_, _, rfl, H.out⟩, rfl⟩
end
/-- How a segment's payloads are gone through. -/
structure Pla (l : List Fl) (g k : Nat) (x : Fl) (L : List (List Int)) (m : Int) (Lf : Nat → List (List Int)) (nf : Nat → Int) : Prop where
  l0 : Lf 0 = L
  n0 : nf 0 = m
  step : ∀ i q, (frs x.dt)[i]? = some q → ¬ (k = 1 ∧ i = 0) → Lf (i + 1) = Lf i ++ [q] ∧ nf (i + 1) = nf i
  head : k = 1 → ∀ p, (frs x.dt)[0]? = some p → Lf 1 = Lf 0 ∧ nf 1 = rNumV p 0 0 ∧ (headB p = false → whole l g = false)
  fin : (k = 1 → ∀ p, (frs x.dt)[0]? = some p → headB p = true) → (¬ fpl x.dt < x.dt.length → Fv l g (k + 1) (Lf (frs x.dt).length) (nf (frs x.dt).length)) ∧ (fpl x.dt < x.dt.length → Fe l g (Lf (frs x.dt).length) k (fpl x.dt) (nf (frs x.dt).length))
  len : ∀ i, (Lf i).length ≤ L.length + i
theorem Fv.plan {l : List Fl} {g k : Nat} {L : List (List Int)} {m : Int} {x : Fl} (h : Fv l g k L m) (h1 : 1 ≤ k) (hk : k ≤ l.length + 1) (hf : find (segN g k) l = some x) (ho : Octets x.dt) : ∃ Lf nf, Pla l g k x L m Lf nf := by
  have hr := (frs_parts ho).2.1
  by_cases hk1 : k = 1
  · subst hk1
    have hL : L = [] ∧ m = -1 := by
      rcases h.2 with ⟨_, a, b⟩ | ⟨a, _⟩ | ⟨a, _⟩
      · exact ⟨a, b⟩
      · omega
      · omega
    obtain ⟨rfl, rfl⟩ := hL
    cases hF : frs x.dt with
    | nil =>
      obtain ⟨_, _, h3, h4⟩ := h.none_ hf hF hk
      refine ⟨fun _ => [], fun _ => -1, rfl, rfl, fun i q hq => ?_, fun _ p hp => ?_, fun _ => ?_, fun i => Nat.zero_le _⟩
      · rw [hF] at hq; simp at hq
      · rw [hF] at hp; simp at hp
      · exact ⟨h3, h4⟩
    | cons p r =>
      have hm := (rNumV_le (hr p (by rw [hF]; exact List.mem_cons_self)).2).2
      obtain ⟨g1, g2⟩ := Fv.head (g := g) hf hF hm
      refine ⟨fun i => ((p :: r).take i).tail, fun i => if i = 0 then -1 else rNumV p 0 0, rfl, rfl, fun i q hq hn => ?_, fun _ q hq => ?_, fun hp => ?_, fun i => ?_⟩
      · rw [hF] at hq
        cases i with
        | zero => exact absurd ⟨rfl, rfl⟩ hn
        | succ i =>
          refine ⟨?_, ?_⟩
          · show ((p :: r).take (i + 1 + 1)).tail = ((p :: r).take (i + 1)).tail ++ [q]
            rw [List.take_succ_cons, List.take_succ_cons, List.tail_cons, List.tail_cons, List.take_add_one]
            simp at hq
            rw [hq]; rfl
          · show (if i + 1 + 1 = 0 then (-1 : Int) else _) = if i + 1 = 0 then _ else _
            rw [if_neg (by omega), if_neg (by omega)]
      · rw [hF] at hq
        simp at hq
        subst hq
        exact ⟨rfl, rfl, g1⟩
      · have hpp := g2 (hp rfl p (by rw [hF]; rfl))
        have e1 : ((p :: r).take (frs x.dt).length).tail = r := by rw [hF, List.take_length]; rfl
        have e2 : (if (frs x.dt).length = 0 then (-1 : Int) else rNumV p 0 0) = rNumV p 0 0 := by rw [hF, if_neg (by simp)]
        rw [← hF] at e1 ⊢
        rw [e1, e2]
        exact hpp
      · show (((p :: r).take i).tail).length ≤ _
        rw [List.length_tail, List.length_take]
        simp
        omega
  · refine ⟨fun i => L ++ (frs x.dt).take i, fun _ => m, by rw [List.take_zero, List.append_nil], rfl, fun i q hq _ => ⟨?_, rfl⟩, fun hc => absurd hc hk1, fun _ => ?_, fun i => ?_⟩
    · show L ++ (frs x.dt).take (i + 1) = (L ++ (frs x.dt).take i) ++ [q]
      rw [List.take_add_one, hq, List.append_assoc]; rfl
    · rw [List.take_length]
      exact h.next (by omega) hf hk
    · show (L ++ _).length ≤ _
      rw [List.length_append, List.length_take]
      omega
end Go.Proofs.YtkmcnhjfnjikaaaGreatDoor
/- What the document's found comes to. Conditions: its disk lies in memory as it must, has few files. -/
namespace Go.Proofs.YtkmcnhjfnjikaaaGreatDoor
open Go.RowKit Go.Maps
theorem results_tmp4 {fn : Func} {t u v x : Tmp} (h : fn.results = #[.tmp t, .tmp u, .tmp v, .tmp x]) (tmps : Array Value) (P : Program) (w : World) :
    (results fn tmps).run P w = .ok (.tuple #[tmps.getD t undef, tmps.getD u undef, tmps.getD v undef, tmps.getD x undef]) w := by
  simp [results, h]
/-- What found answers. -/
def FoundP (w : World) (l : List Fl) (g : Nat) (e : Ending) (w' : World) : Prop := Below w.heap.size w w' ∧
  ((whole l g = true ∧ ∃ (A : Option Addr) (c : Nat), e = .returned (.tuple #[.slice A (gen l g).L.tail.length c, .int .i64 ((gen l g).k : Nat), .int .i64 (if (gen l g).u < (gen l g).n then ((gen l g).u : Int) else -1), .bool true]) ∧ (gen l g).L.tail.length ≤ c ∧ PartsN w.heap.size w' A (gen l g).L.tail) ∨
   (whole l g = false ∧ ∃ (A : Option Addr) (n c : Nat) (a b : Int), e = .returned (.tuple #[.slice A n c, .int .i64 a, .int .i64 b, .bool false])))
theorem FoundP.of {w w' : World} {l : List Fl} {g q : Nat} {A : Option Addr} {c : Nat} {L : List (List Int)} {ll : Nat} {e n : Int} (h : Fe l g L q e n) (hb : Below w.heap.size w w') (hL : L.length = ll) (hc : ll ≤ c) (hp : PartsN w.heap.size w' A L) :
    (0 ≤ n ∧ n ≤ (ll : Int) → FoundP w l g (.returned (.tuple #[.slice A ll c, .int .i64 q, .int .i64 e, .bool true])) w') ∧ (¬ (0 ≤ n ∧ n ≤ (ll : Int)) → FoundP w l g (.returned (.tuple #[.slice A ll c, .int .i64 q, .int .i64 e, .bool false])) w') := by
  subst hL
  rcases h with ⟨⟨h1, h2, h3, h4⟩, h5⟩ | ⟨h1, h2⟩
  · refine ⟨fun _ => ⟨hb, .inl ⟨h1, A, c, ?_, ?_, ?_⟩⟩, fun hn => absurd h5 hn⟩
    · rw [h3, h4, h2]
    · rw [← h2]; exact hc
    · rw [← h2]; exact hp
  · exact ⟨fun hn => absurd hn h2, fun _ => ⟨hb, .inr ⟨h1, A, _, c, q, e, rfl⟩⟩⟩
section
variable {T : Nat → Prop} {w : World} {r : Nat} {d : DS}
theorem Rk.readb (h : Rk T w r d) (hln : d.l.length ≤ 1000000) {nm : ByteArray} {wr : World} (hb : Below w.heap.size w wr) {f : Fl} (hf : find nm d.l = some f) :
    Calls Tryz.prog 55 #[.pointer (some ⟨r, 0, none⟩), .string nm] wr fun e w' => (∃ B cb, e = .returned (.tuple #[.slice B f.dt.length cb, .bool true]) ∧ Lies wr B f.dt ∧ f.dt.length ≤ cb) ∧ wr = w' := by
  obtain ⟨ho, R, A, c, hR⟩ := h.below hb
  exact rread_cap hR ho.up hln hf
theorem Rk.readn (h : Rk T w r d) (hln : d.l.length ≤ 1000000) {nm : ByteArray} {wr : World} (hb : Below w.heap.size w wr) (hf : find nm d.l = none) :
    Calls Tryz.prog 55 #[.pointer (some ⟨r, 0, none⟩), .string nm] wr fun e w' => e = .returned (.tuple #[.slice none 0 0, .bool false]) ∧ wr = w' := by
  obtain ⟨_, R, A, c, hR⟩ := h.below hb
  exact rread_no hR hln hf
end
set_option maxRecDepth 100000 in
set_option maxHeartbeats 4000000 in
theorem rfound_any {T : Nat → Prop} {w : World} {r g : Nat} {d : DS} (h : Rk T w r d) (hln : d.l.length ≤ 80) (hg : 1 ≤ g ∧ g < 100) :
    Calls Tryz.prog 50 #[.pointer (some ⟨r, 0, none⟩), .int .i64 g] w (FoundP w d.l g) := by
  obtain ⟨i0, hi, hz0, hz1, hz2⟩ := info_parts Tryz.info31
  have hok := hide h.ok
  have hrd := hide (fun (wr : World) (hb : Below w.heap.size w wr) (nm : ByteArray) (f : Fl) (hf : find nm d.l = some f) => h.readb (by omega) hb hf)
  have hrn := hide (fun (wr : World) (hb : Below w.heap.size w wr) (nm : ByteArray) (hf : find nm d.l = none) => h.readn (by omega) hb hf)
  have hsg := hide (fun (wr : World) (k : Nat) (hk : 1 ≤ k ∧ k < 100) => rsegment_any g k wr hg hk)
  have hb0 := hide (Below.refl w.heap.size w)
  clear h
  go_enter Tryz.func50, Tryz.ntmps50
  go_wp2
  go_loopw [8, 9, 10, 11, 12] (fun v n q e k wr => ∃ (vv : Value) (j q' : Nat) (L : List (List Int)) (m : Int), vv = v ∧ k = .int .i64 j ∧ n = .int .i64 m ∧ q = .int .i64 q' ∧ e = .int .i64 (-1) ∧ q' + 1 = j ∧ j ≤ d.l.length + 1 ∧ Hid (Fv d.l g j L m) ∧ Hid (Grow w.heap.size wr vv L) ∧ Hid (Below w.heap.size w wr) ∧ Hid (L.length ≤ 1048576 * j)) (fun _ _ _ _ k _ => d.l.length + 2 - (intOf k).toNat)
  case atStart => exact ⟨_, 1, 0, [], -1, rfl, rfl, rfl, rfl, rfl, rfl, by omega, Fv.start d.l g, Grow.nil _ _, hb0, Nat.zero_le _⟩
  case round =>
    obtain ⟨v, j, q, L, m, rfl, rfl, rfl, rfl, rfl, hq, hj, hF, hG, hB, hL⟩ := hrel
    have hsg1 := hide (hsg.out wr j (by omega))
    have hsz := (segN_size g j).2
    cases hf : find (segN g j) d.l with
    | none =>
      have hend := hF.out.stop (by omega) hf hj
      rw [show j - 1 = q by omega] at hend
      obtain ⟨A, c, rfl, hc, -, -, hp⟩ := hG.out.parts
      obtain ⟨ll, hll⟩ : ∃ n, L.length = n := ⟨_, rfl⟩
      rw [hll] at hc
      have hres := hide (fun (w2 : World) (hb : Below wr.heap.size wr w2) => FoundP.of (w := w) (w' := w2) (g := g) (ll := ll) hend (kept_trans hB.out hb) hll hc (hp.below hb))
      rw [hll]
      have hrn1 := hide (fun (w2 : World) (hb : Below wr.heap.size wr w2) => hrn.out w2 (kept_trans hB.out hb) _ hf)
      generalize segN g j = nm at *
      have hcase : (decide ((0 : Int) ≤ m) = true ∧ decide (m ≤ (ll : Int)) = true ∧ Hid (0 ≤ m ∧ m ≤ (ll : Int))) ∨ (decide ((0 : Int) ≤ m) = true ∧ decide (m ≤ (ll : Int)) = false ∧ Hid (¬ (0 ≤ m ∧ m ≤ (ll : Int)))) ∨ (decide ((0 : Int) ≤ m) = false ∧ Hid (¬ (0 ≤ m ∧ m ≤ (ll : Int)))) := by
        by_cases h1 : 0 ≤ m
        · by_cases h2 : m ≤ (ll : Int)
          · exact .inl ⟨decide_eq_true h1, decide_eq_true h2, ⟨h1, h2⟩⟩
          · exact .inr (.inl ⟨decide_eq_true h1, decide_eq_false h2, fun h => h2 h.2⟩)
        · exact .inr (.inr ⟨decide_eq_false h1, fun h => h1 h.1⟩)
      clear hf hend hp hF hG hL hll
      rcases hcase with ⟨c1, c2, c3⟩ | ⟨c1, c2, c3⟩ | ⟨c1, c3⟩
      · go_wp2_with (first
          | (go_at_call 36; (with_reducible refine hsg1.out.mono ?_); rintro e w1 ⟨rfl, hb1⟩; have hb1 := hide hb1)
          | (go_at_call 55; (with_reducible refine (hrn1.out _ hb1.out).mono ?_); rintro e w2 ⟨rfl, rfl⟩))
        refine bodyPost_ret (results_tmp4 rfl _ _ _) rfl ?_
        exact (hres.out _ hb1.out).1 c3.out
      · go_wp2_with (first
          | (go_at_call 36; (with_reducible refine hsg1.out.mono ?_); rintro e w1 ⟨rfl, hb1⟩; have hb1 := hide hb1)
          | (go_at_call 55; (with_reducible refine (hrn1.out _ hb1.out).mono ?_); rintro e w2 ⟨rfl, rfl⟩))
        refine bodyPost_ret (results_tmp4 rfl _ _ _) rfl ?_
        exact (hres.out _ hb1.out).2 c3.out
      · go_wp2_with (first
          | (go_at_call 36; (with_reducible refine hsg1.out.mono ?_); rintro e w1 ⟨rfl, hb1⟩; have hb1 := hide hb1)
          | (go_at_call 55; (with_reducible refine (hrn1.out _ hb1.out).mono ?_); rintro e w2 ⟨rfl, rfl⟩))
        refine bodyPost_ret (results_tmp4 rfl _ _ _) rfl ?_
        exact (hres.out _ hb1.out).2 c3.out
    | some x =>
      have hxo := hok.out.oct x (find_mem hf).1
      have hxl := flen hok.out (find_mem hf).1
      obtain ⟨Lf, nf, hpl⟩ := hF.out.plan (by omega) hj hf hxo
      have hF2 := hide hF.out.1
      have hpl := hide hpl
      have hFo := hide (frs_parts hxo).2.1
      have hrd1 := hide (fun (w2 : World) (hb : Below wr.heap.size wr w2) => hrd.out w2 (kept_trans hB.out hb) _ x hf)
      have hsn := hide (fun (w2 : World) (B : Option Addr) (cb : Nat) (hz : Lies w2 B x.dt) (hc : x.dt.length ≤ cb) => rscan_any B x.dt.length cb x.dt w2 rfl hz hc hxo (by omega))
      have hfu := hide (fun (J : Nat) (hU : Upto x.dt J) => frs_of hU)
      have hf := hide hf
      clear hF hxo
      generalize segN g j = nm at *
      go_upto_region 8 with (first
          | (go_at_call 36; (with_reducible refine hsg1.out.mono ?_); rintro e w1 ⟨rfl, hb1⟩; have hb1 := hide hb1)
          | (go_at_call 55; (with_reducible refine (hrd1.out _ hb1.out).mono ?_); rintro e w2 ⟨⟨B, cb, rfl, hlz, hle⟩, rfl⟩; have hs1 := hide (hsn.out _ B cb hlz hle); clear hlz hle)
          | (go_at_call 90; (with_reducible refine hs1.out.mono ?_); rintro e w3 ⟨J, A3, c3, hU, rfl, hJc, hn3, hp3, hb3⟩; obtain ⟨e1, e2, e3⟩ := hfu.out J hU; rw [e2]; rw [e1] at hp3; have e3 := hide e3; have hp3 := hide hp3; have hb3 := hide hb3; clear hU e1 e2))
      have hFl := e3.out
      have R3 := hide ((Recs.of_parts (c := c3) hp3.out (by rw [hFl]; exact hJc) (fun p hp => (hFo.out p hp).2)).mono (Z := fun k => w1.heap.size ≤ k ∧ k < w3.heap.size) fun k h1 h2 => ⟨h1, h2⟩)
      have hB1 := hide (kept_trans hB.out hb1.out)
      have hB3 := hide (kept_trans hB1.out hb3.out)
      have hG3 := hide (hG.out.below (kept_trans hb1.out hb3.out))
      have hv3 := hide (show ∀ k, v.ownBlock = some k → k < w1.heap.size ∨ w3.heap.size ≤ k from fun k hk => by
        obtain ⟨vs, ho, _⟩ := hG.out.own
        have := (ho.lt k hk).2
        have := hb1.out.size
        omega)
      have hK3 := hide (Kx.refl (fun k => w1.heap.size ≤ k ∧ k < w3.heap.size) w3)
      have hl0 := hpl.out.l0
      have hn0 := hpl.out.n0
      have hJ7 : J ≤ 1048576 := by
        have h7 := (frs_parts (hok.out.oct x (find_mem hf.out).1)).2.2.1
        have h8 : ∀ {F : List (List Int)}, Right F → F.length ≤ (enc F).length := by
          intro F
          induction F with
          | nil => intro _; exact Nat.zero_le _
          | cons p r ih =>
            intro hr
            have := ih fun q hq => hr q (List.mem_cons_of_mem _ hq)
            rw [enc_cons, List.length_append, length_frm, List.length_cons]
            omega
        have h9 := h8 hFo.out
        have := fpl_le x.dt
        omega
      have hlen := hide (fun i => Nat.le_trans (hpl.out.len i) (Nat.add_le_add_right hL.out i))
      rw [← hl0] at hG3
      rw [← hn0]
      have hw1 := hB1.out.size
      clear hp3 hG hL hB hB1 hl0 hn0 hrd1 hsn hfu hsg1 hb1 hb3 hs1
      generalize hFe : frs x.dt = F at *
      have hFe := hide hFe
      obtain ⟨U, hU⟩ : ∃ u, fpl x.dt = u := ⟨_, rfl⟩
      obtain ⟨N, hN⟩ : ∃ u, x.dt.length = u := ⟨_, rfl⟩
      rw [hU, hN]
      have hUN := hide (And.intro hU hN)
      clear hU hN
      go_wp2
      go_loopw [8, 9, 17] (fun v2 n2 i wi => ∃ (vi : Value) (ii : Nat), vi = v2 ∧ i = .int .i64 ii ∧ n2 = .int .i64 (nf ii) ∧ ii ≤ J ∧ Hid (Grow w.heap.size wi vi (Lf ii)) ∧ Hid (Below w.heap.size w wi) ∧ Hid (Kx (fun k => w1.heap.size ≤ k ∧ k < w3.heap.size) w3 wi) ∧ Hid (∀ k, vi.ownBlock = some k → k < w1.heap.size ∨ w3.heap.size ≤ k) ∧ Hid (j = 1 → 1 ≤ ii → ∀ p, F[0]? = some p → headB p = true)) (fun _ _ i _ => J - (intOf i).toNat)
      case atStart => exact ⟨v, 0, rfl, rfl, rfl, Nat.zero_le _, hG3, hB3, hK3, hv3, fun _ h => absurd h (by decide)⟩
      case round =>
        clear hG3 hB3 hK3 hv3
        obtain ⟨vi, ii, rfl, rfl, rfl, hii, gI, bI, kI, oI, hI⟩ := hrel
        by_cases hlt : ii < J
        · have t1 : decide ((ii : Int) < (J : Int)) = true := by simp; omega
          have t2 : decide (ii < J) = true := by simp; omega
          obtain ⟨y, hy⟩ : ∃ y, F[ii]? = some y := ⟨F[ii]'(by omega), List.getElem?_eq_getElem (by omega)⟩
          obtain ⟨b, off, rfl, hYb, hbl, A', c', hc, hel, hfar⟩ := (R3.out.kx kI.out (fun _ h => h)).at' ii y hy
          have hyo := hFo.out y (List.mem_of_getElem? hy)
          obtain ⟨ny, hny⟩ : ∃ n, y.length = n := ⟨_, rfl⟩
          rw [hny] at hc
          obtain ⟨my1, my2⟩ := hyo.1
          rw [hny] at my1 my2
          have hyp : 0 < y.length := by omega
          by_cases hh : j = 1 ∧ ii = 0
          · obtain ⟨hj1, rfl⟩ := hh
            have f1 : ((j : Int) == 1) = true := by simp [hj1]
            rw [Nat.add_zero] at hc
            obtain ⟨d1, d2, d3⟩ := hpl.out.head hj1 y (by rw [hFe.out]; exact hy)
            rw [← d1] at gI
            have hV := rNumV_le hyo.2
            have hhe := headB_end y
            have rd := hide (rread_any A' ny c' wr.heap.size y wr hny hel.lies.deep (Nat.le_refl _) hyo.2 (by rw [← hny]; exact hel.le) (by omega))
            have hbW := hide (fun (w7 : World) (hb : Below wr.heap.size wr w7) => kept_trans bI.out hb)
            have hnum := hide (fun (w5 : World) (gr : Nat) (h : Rdr 156 w5 wr.heap.size gr y 0 0) => rnum_0 h)
            have hndt := hide (fun (w5 : World) (gr : Nat) (h : Rdr 156 w5 wr.heap.size gr y (rNumA y 0 0) (rNumE y 0 0)) => rend_to h)
            have hnext := hide (show headB y = true → j = 1 → 1 ≤ 0 + 1 → ∀ p, F[0]? = some p → headB p = true from fun h _ _ p hp => by rw [hy] at hp; injection hp with hp; rw [← hp]; exact h)
            have hd2 := hide d2
            have hd3 := hide d3
            have hy := hide hy
            have hfalse := hide (show headB y = false → ∀ w7, Below wr.heap.size wr w7 → FoundP w d.l g (.returned (.tuple #[.slice none 0 0, .int .i64 0, .int .i64 0, .bool false])) w7 from fun h w7 hb => ⟨hbW.out w7 hb, .inr ⟨hd3.out h, none, 0, 0, 0, 0, rfl⟩⟩)
            have hE : (((rEndE y (rNumA y 0 0) (rNumE y 0 0)) != 0) = true ∧ Hid (headB y = false)) ∨ (((rEndE y (rNumA y 0 0) (rNumE y 0 0)) != 0) = false ∧ decide (rNumV y 0 0 < 0) = true ∧ Hid (headB y = false)) ∨ (((rEndE y (rNumA y 0 0) (rNumE y 0 0)) != 0) = false ∧ decide (rNumV y 0 0 < 0) = false ∧ Hid (headB y = true)) := by
              by_cases h1 : rEndE y (rNumA y 0 0) (rNumE y 0 0) = 0
              · by_cases h2 : rNumV y 0 0 < 0
                · exact .inr (.inl ⟨by simp [h1], decide_eq_true h2, (show headB y = false by rw [hhe, decide_eq_false (show ¬ 0 ≤ rNumV y 0 0 by omega), Bool.and_false])⟩)
                · exact .inr (.inr ⟨by simp [h1], decide_eq_false h2, (show headB y = true by rw [hhe, decide_eq_true h1, decide_eq_true (show 0 ≤ rNumV y 0 0 by omega)]; rfl)⟩)
              · exact .inl ⟨by simp [h1], (show headB y = false by rw [hhe, decide_eq_false h1]; rfl)⟩
            clear d1 d2 d3 hhe hyo hel hfar hV hyp hj1
            generalize rNumV y 0 0 = V at *
            generalize rNumA y 0 0 = aa at *
            generalize rNumE y 0 0 = ae at *
            generalize rEndE y aa ae = E at *
            unfold NewR at rd
            rcases hE with ⟨c1, c3⟩ | ⟨c1, c2, c3⟩ | ⟨c1, c2, c3⟩
            · go_wp2_with (first
                | (go_at_call 91; (with_reducible refine rd.out.mono ?_); rintro e w5 ⟨gr, rfl, hgr, r5, b5⟩; have r5 := hide r5; have b5 := hide b5)
                | (go_at_call 92; (with_reducible refine (hnum.out _ _ r5.out).mono ?_); rintro e w6 ⟨rfl, r6, g6⟩; have b6 := hide (b5.out.grown g6 b5.out.size (fun k hk => by cases hk; exact hgr)); have r6 := hide r6; clear g6)
                | (go_at_call 93; (with_reducible refine (hndt.out _ _ r6.out).mono ?_); rintro e w7 ⟨rfl, r7, g7⟩; have b7 := hide (b6.out.grown g7 b6.out.size (fun k hk => by cases hk; exact hgr)); clear r7 g7))
              refine bodyPost_ret (results_tmp4 rfl _ _ _) rfl ?_
              exact hfalse.out c3.out _ b7.out
            · go_wp2_with (first
                | (go_at_call 91; (with_reducible refine rd.out.mono ?_); rintro e w5 ⟨gr, rfl, hgr, r5, b5⟩; have r5 := hide r5; have b5 := hide b5)
                | (go_at_call 92; (with_reducible refine (hnum.out _ _ r5.out).mono ?_); rintro e w6 ⟨rfl, r6, g6⟩; have b6 := hide (b5.out.grown g6 b5.out.size (fun k hk => by cases hk; exact hgr)); have r6 := hide r6; clear g6)
                | (go_at_call 93; (with_reducible refine (hndt.out _ _ r6.out).mono ?_); rintro e w7 ⟨rfl, r7, g7⟩; have b7 := hide (b6.out.grown g7 b6.out.size (fun k hk => by cases hk; exact hgr)); clear r7 g7))
              refine bodyPost_ret (results_tmp4 rfl _ _ _) rfl ?_
              exact hfalse.out c3.out _ b7.out
            · go_wp2_with (first
                | (go_at_call 91; (with_reducible refine rd.out.mono ?_); rintro e w5 ⟨gr, rfl, hgr, r5, b5⟩; have r5 := hide r5; have b5 := hide b5)
                | (go_at_call 92; (with_reducible refine (hnum.out _ _ r5.out).mono ?_); rintro e w6 ⟨rfl, r6, g6⟩; have b6 := hide (b5.out.grown g6 b5.out.size (fun k hk => by cases hk; exact hgr)); have r6 := hide r6; clear g6)
                | (go_at_call 93; (with_reducible refine (hndt.out _ _ r6.out).mono ?_); rintro e w7 ⟨rfl, r7, g7⟩; have b7 := hide (b6.out.grown g7 b6.out.size (fun k hk => by cases hk; exact hgr)); clear r7 g7))
              go_roundw
              case rel => exact ⟨vi, 1, rfl, rfl, congrArg (fun z : Int => Value.int .i64 z) hd2.out.symm, by omega, gI.out.below b7.out, hbW.out _ b7.out, kI.out.trans (Kx.of_below b7.out), oI, hnext.out c3.out⟩
              case measure => simp [intOf]; omega
          · obtain ⟨s1, s2⟩ := hpl.out.step ii y (by rw [hFe.out]; exact hy) hh
            have s1 := hide s1
            have s2 := hide s2
            have f1 : ((j : Int) == 1) = true ∧ ((ii : Int) == 0) = false ∨ ((j : Int) == 1) = false := by
              by_cases h1 : j = 1
              · refine .inl ⟨by simp [h1], ?_⟩
                have : ii ≠ 0 := fun h2 => hh ⟨h1, h2⟩
                simpa using this
              · exact .inr (by simp; omega)
            have hn1 := hide (show j = 1 → 1 ≤ ii + 1 → ∀ p, F[0]? = some p → headB p = true from fun h1 _ p hp => by
              refine hI.out h1 ?_ p hp
              rcases Nat.eq_zero_or_pos ii with h2 | h2
              · exact absurd ⟨h1, h2⟩ hh
              · exact h2)
            have hel2 := hide hel
            have hfar2 := hide (fun a ha => hfar hyp a ha)
            obtain ⟨vs, hvs, hvl⟩ := gI.out.own
            have hvs2 := hide (own_below hvs (below_alloc' wr (.cells #[.slice A' ny c'] 31)))
            have hvb := hide (fun k (hk : vi.ownBlock = some k) => hvs.lt k hk)
            have hvn := hvs.1
            have hvl := hide hvl
            have hln2 := hlen.out ii
            have hbs := bI.out.size
            clear hh hel hfar hy hyo hvs hyp
            rcases f1 with ⟨f1, f2⟩ | f1
            all_goals
              go_wp2_with (at_builtin; refine wpList_append_own_at _ rfl (.tmp 61) (.tmp 66) 27 rfl w.heap.size 31 i0 (.slice none 0 0) 1 24 Tryz.underlying27 hi hz0 hz1 hz2 rfl (by omega) _ (Lf ii).length vs rfl hvs2.out ⟨wr.heap.size, 0, none⟩ 1 1 [.slice A' ny c'] rfl rfl (cell_one_new _ _ _) (by intro u hu; rw [List.mem_singleton] at hu; subst hu; rfl) (by unfold maxLen; omega) (by omega) (by simp; omega) ?_)
              intro v2 w2 o2 g2 _ at2
              have gI2 := hide (Grow.more (base := w.heap.size) (w := wr.alloc (.cells #[.slice A' ny c'] 31)) (p := y) (A := A') (c := c') (hel2.out.alloc _) (fun a ha => ⟨fun e => by
                  have h1 := hfar2.out a ha
                  rcases oI.out _ e.symm with h2 | h2 <;> omega, by have := (hfar2.out a ha).2; simp; omega, by have := (hfar2.out a ha).1; omega⟩)
                (fun j r hj => by
                  obtain ⟨A'', c'', h1, h2, h3⟩ := hvl.out j r hj
                  exact ⟨A'', c'', h1, h2.alloc _, fun a ha => ⟨(h3 a ha).1, by have := (h3 a ha).2.1; simp; omega, (h3 a ha).2.2⟩⟩) (by omega) (by rw [hny]; exact o2) g2 (at2.imp id (fun h => by rw [h]; simp)))
              rw [← s1.out] at gI2
              have bI2 := hide ((bI.out.alloc bI.out.size (.cells #[.slice A' ny c'] 31)).grown g2 (by simp; omega) (fun k hk => (hvb.out k hk).1))
              have kI2 := hide (kI.out.trans ((Kx.of_below (below_alloc' wr (.cells #[.slice A' ny c'] 31))).trans (Kx.of_grown g2 fun k e hx => by rcases oI.out k e with h2 | h2 <;> omega)))
              have oI2 := hide (show ∀ k, v2.ownBlock = some k → k < w1.heap.size ∨ w3.heap.size ≤ k from fun k hk => by
                rcases at2 with e | e
                · exact oI.out k (by rw [← e]; exact hk)
                · rw [e] at hk; injection hk with hk; have := kI.out.size; omega)
              clear o2 g2 at2 hvl hvs2 gI
              go_wp2
              go_roundw
              case rel => exact ⟨v2, ii + 1, rfl, by go_num, by rw [s2.out], by omega, gI2, bI2, kI2, oI2, hn1⟩
              case measure => simp [intOf]; omega
        · obtain rfl : ii = J := by omega
          have t1 : decide ((ii : Int) < (ii : Int)) = false := by simp
          have t2 : decide (ii < ii) = false := by simp
          have fin := hpl.out.fin (fun hj1 p hp => by
            rw [hFe.out] at hp
            refine hI.out hj1 ?_ p hp
            rw [← hFl]
            rcases Nat.eq_zero_or_pos F.length with h0 | h0
            · rw [List.getElem?_eq_none (by omega)] at hp; cases hp
            · exact h0)
          rw [hFe.out, hUN.out.1, hUN.out.2, hFl] at fin
          have hll0 := hlen.out ii
          have hfl : (find nm d.l).isSome = true := by rw [hf.out]; rfl
          generalize nf ii = m2 at *
          generalize Lf ii = L2 at *
          by_cases hc : U < N
          · have c1 : decide ((U : Int) < (N : Int)) = true := by simp; omega
            have c2 : decide (U < N) = true := by simp; omega
            obtain ⟨A, c, rfl, hcc, -, -, hp⟩ := gI.out.parts
            obtain ⟨ll, hll⟩ : ∃ n, L2.length = n := ⟨_, rfl⟩
            rw [hll] at hcc
            have hres := hide (FoundP.of (w := w) (w' := wr) (g := g) (ll := ll) (fin.2 hc) bI.out hll hcc hp)
            rw [hll]
            have hcase : (decide ((0 : Int) ≤ m2) = true ∧ decide (m2 ≤ (ll : Int)) = true ∧ Hid (0 ≤ m2 ∧ m2 ≤ (ll : Int))) ∨ (decide ((0 : Int) ≤ m2) = true ∧ decide (m2 ≤ (ll : Int)) = false ∧ Hid (¬ (0 ≤ m2 ∧ m2 ≤ (ll : Int)))) ∨ (decide ((0 : Int) ≤ m2) = false ∧ Hid (¬ (0 ≤ m2 ∧ m2 ≤ (ll : Int)))) := by
              by_cases h1 : 0 ≤ m2
              · by_cases h2 : m2 ≤ (ll : Int)
                · exact .inl ⟨decide_eq_true h1, decide_eq_true h2, ⟨h1, h2⟩⟩
                · exact .inr (.inl ⟨decide_eq_true h1, decide_eq_false h2, fun h => h2 h.2⟩)
              · exact .inr (.inr ⟨decide_eq_false h1, fun h => h1 h.1⟩)
            clear fin hp gI hc hll hll0 hlt
            rcases hcase with ⟨y1, y2, y3⟩ | ⟨y1, y2, y3⟩ | ⟨y1, y3⟩
            · go_wp2
              refine bodyPost_ret (results_tmp4 rfl _ _ _) rfl ?_
              exact hres.out.1 y3.out
            · go_wp2
              refine bodyPost_ret (results_tmp4 rfl _ _ _) rfl ?_
              exact hres.out.2 y3.out
            · go_wp2
              refine bodyPost_ret (results_tmp4 rfl _ _ _) rfl ?_
              exact hres.out.2 y3.out
          · have c1 : decide ((U : Int) < (N : Int)) = false := by simp; omega
            have c2 : decide (U < N) = false := by simp; omega
            have fin1 := hide (fin.1 hc)
            have hj2 : j + 1 ≤ d.l.length + 1 := by
              have := found_le hg hok.out.up (k := j) (by omega) fun i h1 h2 => fin1.out.1 i h1 (by omega)
              omega
            have hll1 := hide (show L2.length ≤ 1048576 * (j + 1) by omega)
            clear fin hc hlt hll0
            go_wp2
            go_roundw
            case rel => exact ⟨_, j + 1, j, L2, m2, rfl, by go_num, rfl, rfl, rfl, rfl, hj2, fin1, gI, bI, hll1⟩
            case measure => simp [intOf]; omega
end Go.Proofs.YtkmcnhjfnjikaaaGreatDoor
