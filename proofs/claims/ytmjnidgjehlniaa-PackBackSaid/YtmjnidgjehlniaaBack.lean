/- What the reading of PackBack comes to, over bytes that begin as the things' bytes do. Conditions: what it captured lies in memory as it must. -/
import Derived.Test.YtmjnidgjehlniaaEnc
import Derived.Test.YtmjnidgjehlniaaRef
import Derived.Deep.DeepCutAuto
import Derived.Deep.RegionHeld3
namespace Go.Proofs.Ytmjnidgjehlniaa
open Go.RowKit
/-- The reader, the item's copy, and what was there. -/
structure One (W w : World) (g m : Nat) (zs : List Int) (i : Nat) (e : Int) (cs : Array Value) : Prop where
  p : Rdr 60 w g g zs i e
  it : Row w m 32 cs
  old : Below W.heap.size W w
  hg : W.heap.size ≤ g
  gm : g < m
section
variable {W w w' : World} {g m i i' : Nat} {zs : List Int} {e e' : Int} {cs : Array Value}
theorem One.step (s : One W w g m zs i e cs) (hg : w.grownBy w' (some g)) (hp : Rdr 60 w' g g zs i' e') : One W w' g m zs i' e' cs :=
  have h1 := s.hg
  have h2 := s.gm
  ⟨hp, (hg.block m s.it.lt (fun e => by injection e; omega)).trans s.it, s.old.grown hg s.old.size (fun k hk => by cases hk; exact h1), h1, h2⟩
theorem One.drew (s : One W w g m zs i e cs) : One W w.drew g m zs i e cs := ⟨s.p.drewN 1, s.it, s.old.drew, s.hg, s.gm⟩
theorem One.new (hp : Rdr 60 w g g zs i e) (ho : Below W.heap.size W w) (hg : W.heap.size ≤ g) (cs : Array Value) : One W (w.alloc (.cells cs 32)) g w.heap.size zs i e cs :=
  ⟨hp.alloc _, Row.new _ _ _, ho.alloc ho.size _, hg, hp.lt⟩
theorem num_one {c : Value} (s : One W w g m zs i e cs) (hc : cs[1]? = some c) : Calls Try.prog 27 #[.pointer (some ⟨g, 0, none⟩)] w fun x w' =>
    x = .returned (.int .i64 (rNumV zs i e)) ∧ w'.cell? ⟨m, 1, none⟩ = some c ∧ One W w' g m zs (rNumA zs i e) (rNumE zs i e) cs :=
  (pnum_any s.p).mono fun _ _ ⟨hx, hp, hg⟩ => have t := s.step hg hp; ⟨hx, (t.it.cell 1).trans hc, t⟩
theorem text_one (s : One W w g m zs i e cs) (n : Int) : Calls Try.prog 28 #[.pointer (some ⟨g, 0, none⟩), .int .i64 n] w fun x w' =>
    x = .returned (.string (strOf (rTxtV zs i e n))) ∧ One W w' g m zs (rTxtA zs i e n) (rTxtE zs i e n) cs :=
  (ptext_any s.p n).mono fun _ _ ⟨hx, hp, hg⟩ => ⟨hx, s.step hg hp⟩
theorem flag_one {c : Value} (s : One W w g m zs i e cs) (hc : cs[3]? = some c) : Calls Try.prog 29 #[.pointer (some ⟨g, 0, none⟩)] w fun x w' =>
    x = .returned (.bool (rFlgV zs i e)) ∧ w'.cell? ⟨m, 3, none⟩ = some c ∧ One W w' g m zs (rFlgA zs i e) (rFlgE zs i e) cs :=
  (pflag_any s.p).mono fun _ _ ⟨hx, hp, hg⟩ => have t := s.step hg hp; ⟨hx, (t.it.cell 3).trans hc, t⟩
end
theorem within_is {k r : Int} (h : withinI k 1 3 = r) (w : World) : Calls Try.prog 25 #[.int .i64 k, .int .i64 1, .int .i64 3] w fun e w' => e = .returned (.int .i64 r) ∧ w = w' := by
  subst h; exact within_any k 1 3 w (by omega) (by omega) (by omega)
/-- What the closure captured: how many, and the items. -/
structure Held (w : World) (nb lb : Nat) (A1 : Option Addr) (n1 c1 K : Nat) (it : Nat → It) : Prop where
  n : w.cell? ⟨nb, 0, none⟩ = some (.int .i64 K)
  l : w.cell? ⟨lb, 0, none⟩ = some (.slice A1 n1 c1)
  nlt : nb < w.heap.size
  llt : lb < w.heap.size
  k : K ≤ n1
  k30 : K ≤ 30
  items : ItemsIn w A1 n1 c1 it
/-- It answers: all as it was written, and whether bytes are left; or that bytes lack. -/
def Answer (zs : List Int) (it : Nat → It) (K : Nat) (W : World) (e : Ending) (w' : World) : Prop :=
  ((e = .returned (.tuple #[.bool true, .int .i64 (rEndE zs (enc it K).length 0)]) ∧ (enc it K).length ≤ zs.length) ∨
   ((∃ b, e = .returned (.tuple #[.bool b, .int .i64 3])) ∧ zs.length < (enc it K).length)) ∧ Below W.heap.size W w'
set_option maxRecDepth 100000 in
set_option maxHeartbeats 8000000 in
theorem read_any (P : Option Addr) (N cp : Nat) (zs ms : List Int) (nb lb : Nat) (A1 : Option Addr) (n1 c1 K : Nat) (it : Nat → It) (w : World) (hN : zs.length = N) (hl : Lies w P zs) (ho : Octets zs) (hc : P = none → cp = 0) (ln : N ≤ 140737488355328)
    (hz : zs <+: enc it K ++ ms) (H : Held w nb lb A1 n1 c1 K it) :
    Calls Try.prog 26 #[.slice P N cp, .pointer (some ⟨nb, 0, none⟩), .pointer (some ⟨lb, 0, none⟩)] w (Answer zs it K w) := by
  have hR := hide (pread_any P N cp zs w hN hl ho hc ln)
  have hK := H.k
  have hK30 := H.k30
  have nlt := H.nlt
  have llt := H.llt
  have hz := hide hz
  have H := hide H
  clear hN hl ho hc
  go_enter Try.func26, Try.ntmps26
  go_wp2_with (first
    | (go_at_call 20; (with_reducible refine hR.out.mono ?_); rintro x w1 ⟨g, rfl, hg, p1, k1⟩; have p1 := hide p1; have k1 := hide k1))
  go_loopw [7, 8] (fun okv iv wr => ∃ (k : Nat) (ok : Bool) (i : Nat) (e : Int), k ≤ K ∧ okv = .bool ok ∧ iv = .int .i64 k ∧ Hid (Rdr 60 wr g g zs i e) ∧ Hid (Inv zs it K k ok i e) ∧ Hid (Below w.heap.size w wr)) (fun _ iv _ => 31 - (intOf iv).toNat)
  case atStart => exact ⟨0, true, 0, 0, by omega, rfl, rfl, p1, hide Inv.start, k1⟩
  case round =>
    clear p1 k1
    obtain ⟨k, ok, i, e, hk, rfl, rfl, p, inv, old⟩ := hrel
    have cn := (old.out.cell (p := ⟨nb, 0, none⟩) nlt).trans H.out.n
    have cl := (old.out.cell (p := ⟨lb, 0, none⟩) llt).trans H.out.l
    by_cases hlt : ok = true ∧ k < K
    · obtain ⟨rfl, hlt⟩ := hlt
      obtain ⟨b, off, rfl, hbl, hx⟩ := H.out.items.at_ k (by omega)
      have hx := hx.below old.out hbl
      have hn1 := hide (num_next (i := i) (e := e) hz.out hlt inv.out)
      have hn2 := hide (text_next (i := i) (e := e) hz.out hlt inv.out)
      have hn3 := hide (flag_next (i := i) (e := e) hz.out hlt inv.out)
      have hw := hide (withinI_bounds (it k).k 1 3 (by omega))
      have q0 := hx.c0
      have q1 := hx.c1
      have q2 := hx.c2
      have q3 := hx.c3
      have qn0 := hx.n.1
      have qn1 := hx.n.2
      clear hx
      generalize it k = x at *
      obtain ⟨xk, xn, xs, xf⟩ := x
      simp only at q0 q1 q2 q3 qn0 qn1
      have st := One.new p.out old.out hg #[.int .i64 xk, .int .i64 xn, .string xs, .bool xf]
      have hc1 := hide (show (#[.int .i64 xk, .int .i64 xn, .string xs, .bool xf] : Array Value)[1]? = some (.int .i64 xn) from rfl)
      have hc3 := hide (show (#[.int .i64 xk, .int .i64 xn, .string xs, .bool xf] : Array Value)[3]? = some (.bool xf) from rfl)
      have d1 := st.it.cell 1
      have d3 := st.it.cell 3
      have st' := hide st
      by_cases hs : 100 < xs.size
      · have ts : decide (100 < (xs.size : Int)) = true := decide_eq_true (by omega)
        have hcut := hide (show cutS xs = xs.extract 0 100 by unfold cutS; rw [if_pos hs])
        rcases (show withinI xk 1 3 = 1 ∨ withinI xk 1 3 = 2 ∨ withinI xk 1 3 = 3 by have := hw.out; simp only at this; omega) with h1 | h1 | h1
        · have hW := hide (within_is h1)
          have h1 := hide h1
          go_wp2_with (go_at_call 25; (with_reducible refine (hW.out _).mono ?_); rintro x w2 ⟨rfl, rfl⟩)
          generalize wr.alloc (.cells #[.int .i64 xk, .int .i64 xn, .string xs, .bool xf] 32) = wx at *
          go_region_held3 (fun w' => w'.cell? ⟨wr.heap.size, 1, none⟩ = some (.int .i64 xn)) (go_keep)
            (first
              | (go_at_call 27; (with_reducible refine (num_one (W := w) (m := wr.heap.size) (zs := zs) (i := i) (e := e) (by first | with_reducible assumption | with_reducible exact One.drew (by with_reducible assumption)) hc1.out).mono ?_); rintro x w3 ⟨rfl, d1', s3⟩))
          all_goals
            clear d1 d3
            go_wp2_with fail
            go_roundw
            case rel => exact ⟨k + 1, _, _, _, by omega, rfl, by go_num, hide s3.p, hide (hn1.out h1.out qn0 qn1), hide s3.old⟩
            case measure => simp [intOf]; omega
        · have hW := hide (within_is h1)
          have h1 := hide h1
          clear d1 d3
          go_wp2_with (first
            | (go_at_call 25; (with_reducible refine (hW.out _).mono ?_); rintro x w2 ⟨rfl, rfl⟩)
            | (go_at_call 28; (with_reducible refine (text_one st'.out 100).mono ?_); rintro x w3 ⟨rfl, s3⟩; have s3 := hide s3))
          go_roundw
          case rel => exact ⟨k + 1, _, _, _, by omega, rfl, by go_num, hide s3.out.p, hide (hn2.out h1.out _ (fun hh => by rw [hcut.out] at hh; rw [hh]; simp)), hide s3.out.old⟩
          case measure => simp [intOf]; omega
        · have hW := hide (within_is h1)
          have h1 := hide h1
          go_wp2_with (go_at_call 25; (with_reducible refine (hW.out _).mono ?_); rintro x w2 ⟨rfl, rfl⟩)
          generalize wr.alloc (.cells #[.int .i64 xk, .int .i64 xn, .string xs, .bool xf] 32) = wx at *
          go_region_held3 (fun w' => w'.cell? ⟨wr.heap.size, 3, none⟩ = some (.bool xf)) (go_keep)
            (first
              | (go_at_call 29; (with_reducible refine (flag_one (W := w) (m := wr.heap.size) (zs := zs) (i := i) (e := e) (by first | with_reducible assumption | with_reducible exact One.drew (by with_reducible assumption)) hc3.out).mono ?_); rintro x w3 ⟨rfl, d3', s3⟩))
          all_goals
            clear d1 d3
            go_wp2_with fail
            go_roundw
            case rel => exact ⟨k + 1, _, _, _, by omega, rfl, by go_num, hide s3.p, hide (hn3.out h1.out), hide s3.old⟩
            case measure => simp [intOf]; omega
      · have ts : decide (100 < (xs.size : Int)) = false := decide_eq_false (by omega)
        have hcut := hide (show cutS xs = xs by unfold cutS; rw [if_neg hs])
        rcases (show withinI xk 1 3 = 1 ∨ withinI xk 1 3 = 2 ∨ withinI xk 1 3 = 3 by have := hw.out; simp only at this; omega) with h1 | h1 | h1
        · have hW := hide (within_is h1)
          have h1 := hide h1
          go_wp2_with (go_at_call 25; (with_reducible refine (hW.out _).mono ?_); rintro x w2 ⟨rfl, rfl⟩)
          generalize wr.alloc (.cells #[.int .i64 xk, .int .i64 xn, .string xs, .bool xf] 32) = wx at *
          go_region_held3 (fun w' => w'.cell? ⟨wr.heap.size, 1, none⟩ = some (.int .i64 xn)) (go_keep)
            (first
              | (go_at_call 27; (with_reducible refine (num_one (W := w) (m := wr.heap.size) (zs := zs) (i := i) (e := e) (by first | with_reducible assumption | with_reducible exact One.drew (by with_reducible assumption)) hc1.out).mono ?_); rintro x w3 ⟨rfl, d1', s3⟩))
          all_goals
            clear d1 d3
            go_wp2_with fail
            go_roundw
            case rel => exact ⟨k + 1, _, _, _, by omega, rfl, by go_num, hide s3.p, hide (hn1.out h1.out qn0 qn1), hide s3.old⟩
            case measure => simp [intOf]; omega
        · have hW := hide (within_is h1)
          have h1 := hide h1
          clear d1 d3
          go_wp2_with (first
            | (go_at_call 25; (with_reducible refine (hW.out _).mono ?_); rintro x w2 ⟨rfl, rfl⟩)
            | (go_at_call 28; (with_reducible refine (text_one st'.out 100).mono ?_); rintro x w3 ⟨rfl, s3⟩; have s3 := hide s3))
          go_roundw
          case rel => exact ⟨k + 1, _, _, _, by omega, rfl, by go_num, hide s3.out.p, hide (hn2.out h1.out _ (fun hh => by rw [hcut.out] at hh; rw [hh]; simp)), hide s3.out.old⟩
          case measure => simp [intOf]; omega
        · have hW := hide (within_is h1)
          have h1 := hide h1
          go_wp2_with (go_at_call 25; (with_reducible refine (hW.out _).mono ?_); rintro x w2 ⟨rfl, rfl⟩)
          generalize wr.alloc (.cells #[.int .i64 xk, .int .i64 xn, .string xs, .bool xf] 32) = wx at *
          go_region_held3 (fun w' => w'.cell? ⟨wr.heap.size, 3, none⟩ = some (.bool xf)) (go_keep)
            (first
              | (go_at_call 29; (with_reducible refine (flag_one (W := w) (m := wr.heap.size) (zs := zs) (i := i) (e := e) (by first | with_reducible assumption | with_reducible exact One.drew (by with_reducible assumption)) hc3.out).mono ?_); rintro x w3 ⟨rfl, d3', s3⟩))
          all_goals
            clear d1 d3
            go_wp2_with fail
            go_roundw
            case rel => exact ⟨k + 1, _, _, _, by omega, rfl, by go_num, hide s3.p, hide (hn3.out h1.out), hide s3.old⟩
            case measure => simp [intOf]; omega
    · have hcl : (ok = false ∧ e = 3 ∧ zs.length < (enc it K).length) ∨ (ok = true ∧ k = K ∧ e = 0 ∧ i = (enc it K).length ∧ i ≤ zs.length) ∨ (ok = true ∧ k = K ∧ e = 3 ∧ zs.length < (enc it K).length) := by
        rcases inv.out with ⟨h1, h2, h3, h4⟩ | ⟨h1, h2⟩
        · have hkK : k = K := by
            rcases Nat.lt_or_ge k K with h | h
            · exact absurd ⟨h2, h⟩ hlt
            · omega
          exact .inr (.inl ⟨h2, hkK, h1, by rw [← hkK]; exact h3, h4⟩)
        · cases ok with
          | false => exact .inl ⟨rfl, h1, h2⟩
          | true =>
            have hkK : k = K := by
              rcases Nat.lt_or_ge k K with h | h
              · exact absurd ⟨rfl, h⟩ hlt
              · omega
            exact .inr (.inr ⟨rfl, hkK, h1, h2⟩)
      clear hlt inv
      have hE := fun (e : Int) (h : Rdr 60 wr g g zs i e) => pend_any h
      rcases hcl with ⟨rfl, rfl, hlen⟩ | ⟨rfl, rfl, rfl, rfl, hlen⟩ | ⟨rfl, rfl, rfl, hlen⟩
      · have hE := hE 3 p.out
        rw [show rEndE zs i 3 = 3 by unfold rEndE; rw [if_neg (by decide)]] at hE
        have hE := hide hE
        have hlen := hide hlen
        go_wp2_with (first
          | (go_at_call 30; (with_reducible refine hE.out.mono ?_); rintro x w3 ⟨rfl, p3, g3⟩; have hb3 := hide (old.out.grown g3 old.out.size (fun k hk => by cases hk; exact hg)); clear p3 g3))
        go_ret2
        exact ⟨.inr ⟨⟨_, rfl⟩, hlen.out⟩, hb3.out⟩
      · have hE := hide (hE 0 p.out)
        have hlen := hide hlen
        have t1 : decide (k < k) = false := decide_eq_false (by omega)
        go_wp2_with (first
          | (go_at_call 23; (with_reducible refine (pwrong_any p.out).mono ?_); rintro x w2 ⟨rfl, rfl⟩)
          | (go_at_call 30; (with_reducible refine hE.out.mono ?_); rintro x w3 ⟨rfl, p3, g3⟩; have hb3 := hide (old.out.grown g3 old.out.size (fun k hk => by cases hk; exact hg)); clear p3 g3))
        go_ret2
        exact ⟨.inl ⟨rfl, hlen.out⟩, hb3.out⟩
      · have hE := hE 3 p.out
        rw [show rEndE zs i 3 = 3 by unfold rEndE; rw [if_neg (by decide)]] at hE
        have hE := hide hE
        have hlen := hide hlen
        have t1 : decide (k < k) = false := decide_eq_false (by omega)
        go_wp2_with (first
          | (go_at_call 23; (with_reducible refine (pwrong_any p.out).mono ?_); rintro x w2 ⟨rfl, rfl⟩)
          | (go_at_call 30; (with_reducible refine hE.out.mono ?_); rintro x w3 ⟨rfl, p3, g3⟩; have hb3 := hide (old.out.grown g3 old.out.size (fun k hk => by cases hk; exact hg)); clear p3 g3))
        go_ret2
        exact ⟨.inr ⟨⟨_, rfl⟩, hlen.out⟩, hb3.out⟩
end Go.Proofs.Ytmjnidgjehlniaa
