/- Sync of the document's disk; a new disk. Conditions: the slice has room. -/
import Derived.Test.YtllgjbkmemheoaaRefr
namespace Go.Proofs.Ytllgjbkmemheoaa
open Go.RowKit Go.Maps
theorem own_drewr {S S' : Nat → Prop} {w w' : World} (h : Own S w S' w') : Own S w S' w'.drew := ⟨⟨h.1.1, h.1.2, h.1.3, h.1.4, h.1.5⟩, h.2⟩
section
variable {S : Nat → Prop} {w : World} {g : Nat} {R : List (Fl × Ps)} {A : Option Addr} {c : Nat} {d : DS} {nm : ByteArray}
/-- What a region that stores into a file's cells looks at. -/
theorem Rp.look {b off : Nat} {s : Ps} {f : Fl} {k : Nat} (h : Rp S w g R (some ⟨b, off, none⟩) c d) (hs : R[k]? = some (f, s)) : w.cell? ⟨g, 0, none⟩ = some (.slice (some ⟨b, off, none⟩) d.l.length c) ∧
    w.cell? ⟨b, off + k * 3 + 1, none⟩ = some (.slice s.A f.dt.length s.2) ∧ w.cell? ⟨b, off + k * 3 + 2, none⟩ = some (.int .i64 f.kp) ∧ w.frozen? ⟨b, off + k * 3 + 1, none⟩ = false ∧ w.frozen? ⟨b, off + k * 3 + 2, none⟩ = false := by
  have hk : d.l[k]? = some f := by rw [← h.ls, List.getElem?_map, hs]; rfl
  obtain ⟨b', off', s', e, hs', hkl, n0, n1, n2⟩ := h.at_ hk
  injection e with e
  injection e with e1 e2
  subst e1 e2
  rw [hs] at hs'
  injection hs' with hs'
  injection hs' with _ hs'
  subst hs'
  exact ⟨h.row.cell 0, n1, n2, (own3_put h.own hs (i := 1) (u := .slice s.A f.dt.length s.2) (y := (f, s)) (by omega) rfl rfl).2, (own3_put h.own hs (i := 2) (u := .int .i64 f.kp) (y := (f, s)) (by omega) rfl rfl).2⟩
set_option maxRecDepth 100000 in
set_option maxHeartbeats 4000000 in
theorem rsync_any (h : Rp S w g R A c d) (hok : DOk d) (hln : d.l.length ≤ 1000000) :
    Calls Try.prog 34 #[.pointer (some ⟨g, 0, none⟩), .string nm] w (Chr S w g (synE d nm) (synS d nm)) := by
  have c3 : w.cell? ⟨g, 3, none⟩ = some (.bool d.off) := h.row.cell 3
  unfold synE synS
  cases ho : d.off with
  | true =>
    rw [ho] at c3
    have HA := hide (at_any h nm hln)
    have H := hide (Chr.same (h.rk hok) 10)
    simp only [if_true]
    clear h hok ho
    go_enter Try.func34, Try.ntmps34
    go_wp2_with (go_at_call 49; (with_reducible refine HA.out.mono ?_); rintro e w' ⟨⟨v, rfl, hv⟩, rfl⟩)
    go_ret
    exact H.out
  | false =>
    rw [ho] at c3
    cases hf : find nm d.l with
    | none =>
      have HA := hide (at_no h hln hf)
      have H := hide (Chr.same (h.rk hok) 8)
      simp only [Option.isNone_none, if_true, Bool.false_eq_true, if_false]
      clear h hok ho hf
      go_enter Try.func34, Try.ntmps34
      go_wp2_with (go_at_call 49; (with_reducible refine HA.out.mono ?_); rintro e w' ⟨rfl, rfl⟩)
      go_ret
      exact H.out
    | some f =>
      obtain ⟨k, hk, hn⟩ := find_ix hf
      have HA := hide (at_yes h hok.up hln hk hn)
      have hPW := power_any h hok
      simp only [Option.isNone_some, Bool.false_eq_true, if_false]
      by_cases h0 : d.left = 0
      · simp only [h0, if_true]
        have hsp : d.spends = false := by unfold DS.spends; rw [h0]; rfl
        rw [hsp] at hPW
        have HP := hide hPW
        have H := hide (show ∀ w', Rp S w' g R A c d.spent → w.grownBy w' (some g) → Chr S w g 10 d.spent (.returned (.int .i64 10)) w' from fun w' h1 h2 => ⟨rfl, S, h1.rk (dok_spent hok), Own.grown h.sg h2⟩)
        clear h hok ho hf hk hn h0 hsp hPW
        go_enter Try.func34, Try.ntmps34
        go_wp2_with (first
          | (go_at_call 49; (with_reducible refine HA.out.mono ?_); rintro e w' ⟨rfl, rfl⟩)
          | (go_at_call 47; (with_reducible refine HP.out.mono ?_); rintro e w1 ⟨rfl, hR, hG⟩))
        go_ret
        exact H.out _ hR hG
      · simp only [h0, if_false]
        have hsp : d.spends = true := by unfold DS.spends; simpa using h0
        rw [hsp] at hPW
        obtain ⟨b, off, s, rfl, hs, hkl, _⟩ := h.at_ hk
        have HP := hide hPW
        have HF := hide (show ∀ w', Rp S w' g R (some ⟨b, off, none⟩) c d.spent → _ from fun w' h1 => h1.look hs)
        have HLL := hide (spent_l d)
        have H := hide (show ∀ w', Rp S w' g R (some ⟨b, off, none⟩) c d.spent → w.grownBy w' (some g) → Chr S w g 0 { d.spent with l := putF ⟨nm, f.dt, f.dt.length⟩ d.l } (.returned (.int .i64 0)) ((w'.setCell ⟨b, off + k * 3 + 2, none⟩ (.int .i64 f.dt.length)).drew) from by
          intro w' h1 hG
          obtain ⟨⟨h2, hT⟩, _⟩ := h1.store (Below.refl _ _) (i := 2) (u := .int .i64 f.dt.length) (y := (⟨f.nm, f.dt, f.dt.length⟩, s)) rfl hs (by omega) rfl (h1.dat (f, s) (List.mem_of_getElem? hs)) (fun r hr => .inl (h1.sd (f, s) (List.mem_of_getElem? hs) r hr))
          have hm := List.mem_of_getElem? hk
          have hok2 : DOk { d.spent with l := putF ⟨nm, f.dt, f.dt.length⟩ d.l } := by
            have := dok_put (dok_spent hok) ⟨nm, f.dt, f.dt.length⟩ (Nat.le_refl _) (by rw [← hn]; exact hok.nm f hm) (hok.oct f hm) (by
              rw [spent_l, spent_q]; simp only; rw [hf]; simp only [lenO]; have := hok.tot; omega)
            rw [spent_l] at this; exact this
          rw [spent_l] at h2
          rw [show d.l.set k (⟨f.nm, f.dt, f.dt.length⟩ : Fl) = putF ⟨nm, f.dt, f.dt.length⟩ d.l from by rw [hn]; exact (putF_set hn.symm hok.up hk).symm] at h2
          exact ⟨rfl, _, (h2.below (below_drew _)).rk hok2, own_drewr ((Own.grown h.sg hG).trans (Own.more hT))⟩)
        clear h hok ho hf hk hn h0 hsp hPW hs
        go_enter Try.func34, Try.ntmps34
        go_upto_region 8 with (first
          | (go_at_call 49; (with_reducible refine HA.out.mono ?_); rintro e w' ⟨rfl, rfl⟩)
          | (go_at_call 47; (with_reducible refine HP.out.mono ?_); rintro e w1 ⟨rfl, hR, hG⟩))
        obtain ⟨q0, q1, q2, _, z2⟩ := HF.out _ hR
        rw [HLL.out] at q0
        have HH := hide (H.out _ hR hG)
        clear hR hG H HF HP HA c3
        go_region
        go_wp2
        go_ret
        exact HH.out
set_option maxHeartbeats 1000000 in
theorem rnew_no (q : Int) (w : World) (hq : q < 0 ∨ 1048576 < q) :
    Calls Try.prog 18 #[.int .i64 q] w fun e w' => e = .returned (.tuple #[.pointer none, .int .i64 1]) ∧ w = w' := by
  rcases hq with hq | hq
  · go_enter Try.func18, Try.ntmps18
    go_wp2
    go_ret2
    exact ⟨rfl, rfl⟩
  · have h2 : ¬ q < 0 := by omega
    go_enter Try.func18, Try.ntmps18
    go_wp2
    go_ret2
    exact ⟨rfl, rfl⟩
theorem rk_new (w : World) (q : Int) (hq : 0 ≤ q ∧ q ≤ 1048576) :
    Rk (fun k => k = w.heap.size) (w.alloc (.cells #[.slice none 0 0, .int .i64 q, .int .i64 (-1), .bool false] 66)) w.heap.size (newS q) := by
  refine ⟨⟨List.Pairwise.nil, hq, ?_, fun f hf => (by cases hf), fun f hf => (by cases hf), fun f hf => (by cases hf), ?_⟩, [], none, 0, fun k hk => ?_, Row.new _ _ _, rfl, ⟨rfl, .inl ⟨rfl, rfl⟩⟩, fun x hx => (by cases hx), rfl, fun a ha => (by cases ha), fun x hx => (by cases hx)⟩
  · unfold newS total; simpa using hq.1
  · unfold newS; simp
  · simp; omega
set_option maxHeartbeats 1000000 in
theorem rnew_yes (q : Int) (w : World) (hq : 0 ≤ q ∧ q ≤ 1048576) :
    Calls Try.prog 18 #[.int .i64 q] w fun e w' => e = .returned (.tuple #[.pointer (some ⟨w.heap.size, 0, none⟩), .int .i64 0]) ∧ Rk (fun k => k = w.heap.size) w' w.heap.size (newS q) ∧ Below w.heap.size w w' := by
  have H := hide (rk_new w q hq)
  go_enter Try.func18, Try.ntmps18
  go_wp2
  go_ret2
  exact ⟨rfl, H.out, kept_alloc (kept_refl w) _⟩
end
end Go.Proofs.Ytllgjbkmemheoaa
