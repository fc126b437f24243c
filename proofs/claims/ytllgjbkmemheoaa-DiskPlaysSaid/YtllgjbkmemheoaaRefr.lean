/- Remove, Sync, Arm, Read of the document's disk, and a new one. Conditions: the slice has room. -/
import Derived.Test.YtllgjbkmemheoaaRefq
namespace Go.Proofs.Ytllgjbkmemheoaa
open Go.RowKit Go.Maps
theorem up_inj {l : List Fl} (hu : Up l) {i j : Nat} {x y : Fl} (hi : l[i]? = some x) (hj : l[j]? = some y) (e : x.nm = y.nm) : i = j := by
  obtain ⟨h1, e1⟩ := List.getElem?_eq_some_iff.1 hi
  obtain ⟨h2, e2⟩ := List.getElem?_eq_some_iff.1 hj
  rcases Nat.lt_trichotomy i j with h | h | h
  · have := (List.pairwise_iff_getElem.1 hu) i j h1 h2 h
    rw [e1, e2, e, lt_self] at this; cases this
  · exact h
  · have := (List.pairwise_iff_getElem.1 hu) j i h2 h1 h
    rw [e1, e2, e, lt_self] at this; cases this
section
variable {S : Nat → Prop} {w : World} {g : Nat} {R : List (Fl × Ps)} {A : Option Addr} {c : Nat} {d : DS} {nm : ByteArray}
theorem at_no (h : Rp S w g R A c d) (hln : d.l.length ≤ 1000000) (hf : find nm d.l = none) :
    Calls Try.prog 49 #[.pointer (some ⟨g, 0, none⟩), .string nm] w fun e w' => e = .returned (.int .i64 (-1)) ∧ w = w' :=
  (at_any h nm hln).mono fun e w' ⟨⟨v, he, hv⟩, hw⟩ => by
    rcases hv with ⟨rfl, _⟩ | ⟨k, f, rfl, hk, e2⟩
    · exact ⟨he, hw⟩
    · exact absurd e2 (find_none.1 hf f (List.mem_of_getElem? hk))
theorem at_yes (h : Rp S w g R A c d) (hu : Up d.l) (hln : d.l.length ≤ 1000000) {k : Nat} {f : Fl} (hk : d.l[k]? = some f) (hn : f.nm = nm) :
    Calls Try.prog 49 #[.pointer (some ⟨g, 0, none⟩), .string nm] w fun e w' => e = .returned (.int .i64 (k : Nat)) ∧ w = w' :=
  (at_any h nm hln).mono fun e w' ⟨⟨v, he, hv⟩, hw⟩ => by
    rcases hv with ⟨_, h2⟩ | ⟨i, f2, rfl, hi, e2⟩
    · exact absurd hn (find_none.1 h2 f (List.mem_of_getElem? hk))
    · obtain rfl := up_inj hu hi hk (e2.trans hn.symm)
      exact ⟨he, hw⟩
theorem find_ix {l : List Fl} {f : Fl} (h : find nm l = some f) : ∃ k : Nat, l[k]? = some f ∧ f.nm = nm := by
  obtain ⟨hm, e⟩ := find_mem h
  obtain ⟨k, hk⟩ := List.mem_iff_getElem?.1 hm
  exact ⟨k, hk, e⟩
theorem Own.grown {S : Nat → Prop} {w w' : World} {g : Nat} (hS : S g) (hg : w.grownBy w' (some g)) : Own S w S w' := ⟨Turn.of_grown hg (fun k e => by injection e with e; rw [← e]; exact hS), fun _ hk => .inl hk⟩
theorem Rp.rk (h : Rp S w g R A c d) (hok : DOk d) : Rk S w g d := ⟨hok, R, A, c, h⟩
set_option maxHeartbeats 1000000 in
theorem rrem_any (h : Rp S w g R A c d) (hok : DOk d) (hln : d.l.length ≤ 1000000) :
    Calls Try.prog 38 #[.pointer (some ⟨g, 0, none⟩), .string nm] w (Chr S w g (remE d nm) (remS d nm)) := by
  have c3 : w.cell? ⟨g, 3, none⟩ = some (.bool d.off) := h.row.cell 3
  unfold remE remS
  cases ho : d.off with
  | true =>
    rw [ho] at c3
    have HA := hide (at_any h nm hln)
    have H := hide (Chr.same (h.rk hok) 10)
    simp only [if_true]
    clear h hok ho
    go_enter Try.func38, Try.ntmps38
    go_wp2_with (go_at_call 49; (with_reducible refine HA.out.mono ?_); rintro e w' ⟨⟨v, rfl, hv⟩, rfl⟩)
    go_ret
    exact H.out
  | false =>
    rw [ho] at c3
    cases hf : find nm d.l with
    | none =>
      have HA := hide (at_no h hln hf)
      have H := hide (Chr.same (h.rk hok) 8)
      simp only [Option.isNone_none, if_true, Bool.false_eq_true, if_false]
      clear h hok ho hf
      go_enter Try.func38, Try.ntmps38
      go_wp2_with (go_at_call 49; (with_reducible refine HA.out.mono ?_); rintro e w' ⟨rfl, rfl⟩)
      go_ret
      exact H.out
    | some f =>
      obtain ⟨k, hk, hn⟩ := find_ix hf
      have HA := hide (at_yes h hok.up hln hk hn)
      have hPW := power_any h hok
      simp only [Option.isNone_some, Bool.false_eq_true, if_false]
      by_cases h0 : d.left = 0
      · simp only [h0, if_true]
        have hsp : d.spends = false := by unfold DS.spends; rw [h0]; rfl
        rw [hsp] at hPW
        have HP := hide hPW
        have H := hide (show ∀ w', Rp S w' g R A c d.spent → w.grownBy w' (some g) → Chr S w g 10 d.spent (.returned (.int .i64 10)) w' from fun w' h1 h2 => ⟨rfl, S, h1.rk (dok_spent hok), Own.grown h.sg h2⟩)
        clear h hok ho hf hk hn h0 hsp hPW
        go_enter Try.func38, Try.ntmps38
        go_wp2_with (first
          | (go_at_call 49; (with_reducible refine HA.out.mono ?_); rintro e w' ⟨rfl, rfl⟩)
          | (go_at_call 47; (with_reducible refine HP.out.mono ?_); rintro e w1 ⟨rfl, hR, hG⟩))
        go_ret
        exact H.out _ hR hG
      · simp only [h0, if_false]
        have hsp : d.spends = true := by unfold DS.spends; simpa using h0
        rw [hsp] at hPW
        have HP := hide hPW
        have hkl : k < d.spent.l.length := by rw [spent_l]; exact (List.getElem?_eq_some_iff.1 hk).1
        have HO := hide (fun w' (h1 : Rp S w' g R A c d.spent) => out_any h1 k hkl (by rw [spent_l]; exact hln))
        have H := hide (show ∀ w' w2, w.grownBy w' (some g) → (∃ S', (∃ R' A' c', Rp S' w2 g R' A' c' { d.spent with l := d.spent.l.take k ++ d.spent.l.drop (k + 1) }) ∧ Own S w' S' w2) → Chr S w g 0 { d.spent with l := delF nm d.l } (.returned (.int .i64 0)) w2 from by
          rintro w' w2 hG ⟨S', ⟨R', A', c', h1⟩, h2⟩
          have hok2 : DOk { d.spent with l := delF nm d.l } := by have := dok_del (dok_spent hok) nm; rw [spent_l] at this; exact this
          rw [spent_l, ← delF_at hok.up hk, hn] at h1
          exact ⟨rfl, S', h1.rk hok2, (Own.grown h.sg hG).trans h2⟩)
        clear h hok ho hf hk hn h0 hsp hPW hkl
        go_enter Try.func38, Try.ntmps38
        go_wp2_with (first
          | (go_at_call 49; (with_reducible refine HA.out.mono ?_); rintro e w' ⟨rfl, rfl⟩)
          | (go_at_call 47; (with_reducible refine HP.out.mono ?_); rintro e w1 ⟨rfl, hR, hG⟩)
          | (go_at_call 50; (with_reducible refine (HO.out _ hR).mono ?_); rintro e w2 ⟨rfl, S', R', A', c', hR2, hO2, _⟩))
        go_ret
        exact H.out _ _ hG ⟨S', ⟨R', A', c', hR2⟩, hO2⟩
set_option maxHeartbeats 1000000 in
theorem rarm_any (h : Rp S w g R A c d) (n : Int) :
    Calls Try.prog 39 #[.pointer (some ⟨g, 0, none⟩), .int .i64 n] w fun e w' => e = .returned (.tuple #[]) ∧ Rp S w' g R A c (armS d n) ∧ w.grownBy w' (some g) := by
  have c2 : w.cell? ⟨g, 2, none⟩ = some (.int .i64 d.left) := h.row.cell 2
  have f2 : w.frozen? ⟨g, 2, none⟩ = false := h.row.free 2
  have hg := grown_put (grown_refl w (some g)) 2 (.int .i64 (max n (-1)))
  have H := hide (show Rp S (w.setCell ⟨g, 2, none⟩ (.int .i64 (max n (-1)))) g R A c (armS d n) ∧ w.grownBy (w.setCell ⟨g, 2, none⟩ (.int .i64 (max n (-1)))) (some g) from
    ⟨h.cells (e := armS d n) hg (h.row.put 2 (.int .i64 (max n (-1)))) rfl, hg⟩)
  clear h hg
  go_enter Try.func39, Try.ntmps39
  go_wp2
  go_end0
  exact ⟨rfl, H.out⟩
set_option maxHeartbeats 1000000 in
theorem rread_no (h : Rp S w g R A c d) (hln : d.l.length ≤ 1000000) (hf : find nm d.l = none) :
    Calls Try.prog 43 #[.pointer (some ⟨g, 0, none⟩), .string nm] w fun e w' => e = .returned (.tuple #[.slice none 0 0, .bool false]) ∧ w = w' := by
  have HA := hide (at_no h hln hf)
  clear h hf
  go_enter Try.func43, Try.ntmps43
  go_wp2_with (go_at_call 49; (with_reducible refine HA.out.mono ?_); rintro e w' ⟨rfl, rfl⟩)
  go_ret2
  exact ⟨rfl, rfl⟩
set_option maxHeartbeats 1000000 in
theorem rread_yes (h : Rp S w g R A c d) (hu : Up d.l) (hln : d.l.length ≤ 1000000) {f : Fl} (hf : find nm d.l = some f) :
    Calls Try.prog 43 #[.pointer (some ⟨g, 0, none⟩), .string nm] w fun e w' => (∃ B cb, e = .returned (.tuple #[.slice B f.dt.length cb, .bool true]) ∧ Lies w B f.dt ∧ (B = none → cb = 0)) ∧ w = w' := by
  obtain ⟨k, hk, hn⟩ := find_ix hf
  have HA := hide (at_yes h hu hln hk hn)
  have c0 : w.cell? ⟨g, 0, none⟩ = some (.slice A d.l.length c) := h.row.cell 0
  obtain ⟨b, off, s, rfl, hs, hkl, n0, n1, n2⟩ := h.at_ hk
  have H := hide (show Lies w s.A f.dt ∧ (s.A = none → s.2 = 0) from by
    have ho := h.dat _ (List.mem_of_getElem? hs)
    refine ⟨Lies.of_own ho, fun e => ?_⟩
    rcases ho.2 with ⟨hv, _⟩ | ⟨q, cap, cur, hv, _⟩
    · injection hv
    · injection hv with h1; rw [e] at h1; cases h1)
  clear h hf hu hk hs
  go_enter Try.func43, Try.ntmps43
  go_wp2_with (go_at_call 49; (with_reducible refine HA.out.mono ?_); rintro e w' ⟨rfl, rfl⟩)
  go_ret2
  exact ⟨⟨_, _, rfl, H.out⟩, rfl⟩
end
end Go.Proofs.Ytllgjbkmemheoaa
