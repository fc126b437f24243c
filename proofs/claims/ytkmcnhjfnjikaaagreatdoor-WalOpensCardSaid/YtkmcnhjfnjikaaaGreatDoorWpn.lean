/- What package wal's Open comes to. Conditions: the disk lies in memory as it must, has few files with small numbers. -/
import Derived.Test.YtkmcnhjfnjikaaaGreatDoorVadd
namespace Go.Proofs.YtkmcnhjfnjikaaaGreatDoor
open Go.RowKit Go.Maps
theorem rd_inv {P : Gs → Prop} {l : List Fl} (g : Nat) (hm : ∀ s k x, x ∈ l → P s → P (s.more k x.dt)) : ∀ f k s, P s → P (rd l g f k s)
  | 0, _, _, h => h
  | f + 1, k, s, h => by
    unfold rd
    cases hf : find (segN g k) l with
    | none => exact h
    | some x =>
      have h1 := hm s k x (find_mem hf).1 h
      dsimp only
      split
      · exact h1
      · exact rd_inv g hm f (k + 1) _ h1
theorem rd_k (l : List Fl) (g : Nat) : ∀ f k s, s.k < k → (rd l g f k s).k < k + f
  | 0, k, s, h => h
  | f + 1, k, s, h => by
    unfold rd
    cases hf : find (segN g k) l with
    | none => show s.k < _; omega
    | some x =>
      dsimp only
      split
      · show k < _; omega
      · have := rd_k l g f (k + 1) (s.more k x.dt) (by show k < k + 1; omega)
        omega
theorem opZ_k (d : DS) : (opZ d).k ≤ d.l.length + 2 := by
  unfold opZ
  split
  · exact Nat.zero_le _
  · have := rd_k d.l (opG d) (d.l.length + 2) 1 Gs.zero (by decide)
    unfold gen
    omega
theorem opZ_inv {d : DS} (hok : DOk d) : (opZ d).u ≤ 1048576 ∧ (opZ d).n ≤ 1048576 ∧ ∀ q, q ∈ (opZ d).L → Octets q ∧ q.length ≤ 16384 := by
  unfold opZ
  split
  · exact ⟨Nat.zero_le _, Nat.zero_le _, fun q hq => (by cases hq)⟩
  · refine rd_inv (P := fun s => s.u ≤ 1048576 ∧ s.n ≤ 1048576 ∧ ∀ q, q ∈ s.L → Octets q ∧ q.length ≤ 16384) (opG d) (fun s k x hx h => ?_) _ _ _ ⟨Nat.zero_le _, Nat.zero_le _, fun q hq => (by cases hq)⟩
    have h1 := flen hok hx
    have h2 := fpl_le x.dt
    refine ⟨by show fpl x.dt ≤ _; omega, h1, fun q hq => ?_⟩
    rcases List.mem_append.1 hq with h3 | h3
    · exact h.2.2 q h3
    · have := (frs_parts (hok.oct x hx)).2.1 q h3
      exact ⟨this.2, this.1.2⟩
theorem opL_oct {d : DS} (hok : DOk d) : ∀ q, q ∈ opL d → Octets q ∧ q.length ≤ 16384 := fun q hq => (opZ_inv hok).2.2 q (List.mem_of_mem_tail hq)
theorem opG_le (d : DS) : opG d ≤ 99 := best_le _ _
theorem segs_small {m : Nat} {l : List Fl} (h : Sm m l) (hm : m ≤ 60) : ∀ x, x ∈ segsL (nms l) → x.1 < 100 ∧ x.2 < 100 := fun x hx => by
  unfold segsL at hx
  obtain ⟨hy, h0⟩ := List.mem_filter.1 hx
  obtain ⟨s, hs, rfl⟩ := List.mem_map.1 hy
  obtain ⟨f, hf, rfl⟩ := List.mem_map.1 hs
  rcases h.nm f hf with ⟨g, k, hg, hk, e⟩ | e
  · rw [e, segOf_segN (by omega) (by omega)]; exact ⟨by show g < 100; omega, by show k < 100; omega⟩
  · rw [e] at h0; simp at h0
theorem Dq.small {X : Nat → Prop} {w : World} {g : Nat} {d : DS} (h : Dq X w g d) : ∀ k, X k → k < w.heap.size := by obtain ⟨S, _, _, h2⟩ := h; exact h2
theorem SegsN.zero {base : Nat} {w : World} {A : Option Addr} {l : List (Nat × Nat)} (h : SegsN base w A l) : SegsN 0 w A l := fun j x hj => by
  obtain ⟨b, off, e, _, h2⟩ := h j x hj
  exact ⟨b, off, e, Nat.zero_le _, h2⟩
/-- What Open answers. -/
def OpP (X : Nat → Prop) (w : World) (p : Nat) (d : DS) (e : Ending) (w' : World) : Prop :=
  Kx X w w' ∧ ((opE d ≠ 0 ∧ e = .returned (.tuple #[.pointer none, .slice none 0 0, .int .i64 (opE d)]) ∧ Dq X w' p (opS d)) ∨
    (opE d = 0 ∧ ∃ (P : Nat) (A : Option Addr) (c : Nat) (Z : Nat → Prop), e = .returned (.tuple #[.pointer (some ⟨P, 0, none⟩), .slice A (opL d).length c, .int .i64 0]) ∧ w.heap.size ≤ P ∧ (∀ k, Z k → w.heap.size ≤ k ∧ k < P) ∧
      Wq (fun k => X k ∨ Z k) w' P p (opS d) ⟨opG d, (opZ d).k, false⟩ ∧ Recs Z w' A c (opL d)))
theorem newest_one {w w' : World} {d : DS} {e : Ending} (h : NewestP w d e w') : ∃ A c, e = .returned (.agg #[.slice A (opL d).length c, .int .i64 (opG d : Nat), .int .i64 ((opZ d).k : Nat), .int .i64 ((opZ d).u : Nat), .int .i64 ((opZ d).n : Nat)]) ∧ (opL d).length ≤ c ∧ PartsN w.heap.size w' A (opL d) ∧ Below w.heap.size w w' := by
  obtain ⟨hb, ⟨h0, rfl⟩ | ⟨h0, A, c, rfl, h1, h2⟩⟩ := h
  · have hz : opZ d = Gs.zero := by unfold opZ; rw [if_pos h0]
    have hl : opL d = [] := by unfold opL; rw [hz]; rfl
    exact ⟨none, 0, by rw [hz, hl, h0]; rfl, by rw [hl]; exact Nat.le_refl _, by rw [hl]; exact (fun j p hj => by simp at hj), hb⟩
  · exact ⟨A, c, rfl, h1, h2, hb⟩
set_option maxRecDepth 100000 in
theorem open_nil (w : World) : Calls Tryz.prog 11 #[.pointer none] w fun e w' => e = .returned (.tuple #[.pointer none, .slice none 0 0, .int .i64 1]) ∧ w = w' := by
  go_enter Tryz.func11, Tryz.ntmps11
  go_wp2
  exact bodyPost_ret (results_tmp3 rfl _ _ _) rfl ⟨rfl, rfl⟩
set_option maxRecDepth 100000 in
set_option maxHeartbeats 2000000 in
theorem open_any {X : Nat → Prop} {p m : Nat} {d : DS} {w : World} (h : Dq X w p d) (hs : Sm m d.l) (hm : m ≤ 60) : Calls Tryz.prog 11 #[.pointer (some ⟨p, 0, none⟩)] w (OpP X w p d) := by
  have hsl := hs.len
  have hseg := hide (segments_any h (by omega))
  have hnw := hide (fun (w2 : World) (A : Option Addr) (c : Nat) (hb : Below w.heap.size w w2) (hA : SegsN 0 w2 A (segsL (nms d.l))) => (newest_any (c := c) (h.below hb) hs hm hA).mono fun _ _ h => newest_one h)
  have hG := opG_le d
  have hK := opZ_k d
  have hi := hide (opZ_inv h.ok)
  have hlo := hide (opL_oct h.ok)
  have hsn := hide (segs_small hs hm)
  have hsgl := segsL_len (nms d.l)
  have hnl : (nms d.l).length = d.l.length := length_nms d.l
  have holds := hide (olds_eq hs hm (opG d) (opZ d).k)
  have h := hide h
  go_enter Tryz.func11, Tryz.ntmps11
  go_upto_region 5 with (first
    | (go_at_call 38; (with_reducible refine hseg.out.mono ?_); rintro e w1 ⟨A1, c1, rfl, hle1, hA1, b1⟩; have hA0 := hide (SegsN.zero hA1); have hA1 := hide hA1; have b1 := hide b1)
    | (go_at_call 39; (with_reducible refine (hnw.out _ A1 c1 b1.out hA0.out).mono ?_); rintro e w2 ⟨A2, c2, rfl, hle2, hp2, b2⟩; have hp2 := hide hp2; have b2 := hide b2))
  have hb3 := hide ((b1.out.trans (b2.out.mono b1.out.size)).alloc (by have := b1.out.size; have := b2.out.size; omega) (.cells #[Value.slice A2 (opL d).length c2, Value.int IntKind.i64 (opG d : Nat), Value.int IntKind.i64 ((opZ d).k : Nat), Value.int IntKind.i64 ((opZ d).u : Nat), Value.int IntKind.i64 ((opZ d).n : Nat)] 82))
  have hR := hide (Row.new w2 82 #[Value.slice A2 (opL d).length c2, Value.int IntKind.i64 (opG d : Nat), Value.int IntKind.i64 ((opZ d).k : Nat), Value.int IntKind.i64 ((opZ d).u : Nat), Value.int IntKind.i64 ((opZ d).n : Nat)])
  have hp3 := hide (hp2.out.below (below_alloc' w2 (.cells #[Value.slice A2 (opL d).length c2, Value.int IntKind.i64 (opG d : Nat), Value.int IntKind.i64 ((opZ d).k : Nat), Value.int IntKind.i64 ((opZ d).u : Nat), Value.int IntKind.i64 ((opZ d).n : Nat)] 82)))
  have hA3 := hide ((hA0.out.below b2.out).below (below_alloc' w2 (.cells #[Value.slice A2 (opL d).length c2, Value.int IntKind.i64 (opG d : Nat), Value.int IntKind.i64 ((opZ d).k : Nat), Value.int IntKind.i64 ((opZ d).u : Nat), Value.int IntKind.i64 ((opZ d).n : Nat)] 82)))
  have hwb := hide (Nat.le_trans b1.out.size b2.out.size)
  have hsz := b1.out.size
  generalize hw3 : World.alloc _ _ = w3 at hb3 hR hp3 hA3 ⊢
  have hw3s : w2.heap.size < w3.heap.size := hR.out.lt
  clear hw3
  have QD := hide (h.out.more (Y := fun k => X k ∨ (w.heap.size ≤ k ∧ k < w3.heap.size)) hb3.out fun k hk => hk)
  have htd := hide (tidy_any (G := opG d) (K := (opZ d).k) (U := (opZ d).u) (N := (opZ d).n) (v := .slice A2 (opL d).length c2) (c := c1) QD.out (by omega) (by omega) hi.out.1 (by omega) hsn.out hA3.out (fun hne a ha => by
    obtain ⟨x, hx⟩ : ∃ x, (segsL (nms d.l))[0]? = some x := by
      cases hl : segsL (nms d.l) with
      | nil => exact absurd hl hne
      | cons x r => exact ⟨x, rfl⟩
    obtain ⟨b, off, e, h1, h2, _⟩ := hA1.out 0 x hx
    rw [e] at ha; injection ha with ha; subst ha
    exact .inr ⟨h1, by have := b2.out.size; show b < _; omega⟩))
  rw [← holds.out, ← opE_td, ← opS_td] at htd
  have hE := hide (show opE d = opE d from rfl)
  obtain ⟨z0, z1, z2, z3, z4, _⟩ := Row.all5 hR.out
  clear hA0 hA1 hA3 b1 b2 hseg hnw hp2 hsn holds hi
  go_upto_region 6 with (go_at_call 40; (with_reducible refine htd.out.mono ?_); rintro e w4 ⟨rfl, hq, hk⟩; have QQ := hide hq; have KK := hide hk; clear hq hk)
  have K0 := hide (show Kx X w w4 from (Kx.of_below hb3.out).trans (KK.out.mono fun k hk => .inl hk))
  by_cases hez : opE d = 0
  · have hw4 := KK.out.size
    have R4 := hide (hR.out.same (KK.out.same (.inr ⟨hwb.out, hw3s⟩) hw3s))
    have hp4 := hide (show Recs (fun k => w.heap.size ≤ k ∧ k < w3.heap.size) w4 A2 c2 (opL d) from
      ((Recs.of_parts hp3.out hle2 fun q hq => (hlo.out q hq).1).mono (Z := fun k => w.heap.size ≤ k ∧ k < w3.heap.size) fun k h1 h2 => ⟨Nat.le_trans hsz h1, h2⟩).kx KK.out fun k hk => .inr hk)
    have hres := hide (fun (w5 : World) (b5 : Below w4.heap.size w4 w5) (r5 : Row w5 w4.heap.size 86 #[.pointer (some ⟨p, 0, none⟩), .int .i64 (opG d : Nat), .int .i64 ((opZ d).k : Nat), .bool false]) =>
      (show OpP X w p d (.returned (.tuple #[.pointer (some ⟨w4.heap.size, 0, none⟩), .slice A2 (opL d).length c2, .int .i64 0])) w5 from
        ⟨K0.out.trans (Kx.of_below b5), .inr ⟨hez, w4.heap.size, A2, c2, fun k => w.heap.size ≤ k ∧ k < w3.heap.size, rfl, by have := hwb.out; omega, fun k hk => ⟨hk.1, by have := hk.2; omega⟩,
          ⟨QQ.out.more b5 fun k hk => hk.imp id fun e => by subst e; exact ⟨Nat.le_refl _, r5.lt⟩, r5, fun hk => by
            rcases hk with hk | hk
            · have := h.out.small _ hk; have := hwb.out; omega
            · omega⟩,
          hp4.out.below b5⟩⟩))
    obtain ⟨z0, z1, z2, z3, z4, _⟩ := Row.all5 R4.out
    have h24 := R4.out.lt
    have e1 : (opE d != 0) = false := by simp [hez]
    clear hez
    go_upto_region 8 with (fail)
    have bW := hide (below_alloc' w4 (.cells #[.pointer (some ⟨p, 0, none⟩), .int .i64 (opG d : Nat), .int .i64 ((opZ d).k : Nat), .bool false] 86))
    have rW := hide (Row.new w4 86 #[.pointer (some ⟨p, 0, none⟩), .int .i64 (opG d : Nat), .int .i64 ((opZ d).k : Nat), .bool false])
    go_region
    all_goals
      go_wp2
      go_ret3
      exact hres.out _ bW.out.drew rW.out.drew
  · have e1 : (opE d != 0) = true := by simp [hez]
    have hret := hide (show OpP X w p d (.returned (.tuple #[.pointer none, .slice none 0 0, .int .i64 (opE d)])) w4 from ⟨K0.out, .inl ⟨hez, rfl, QQ.out.less fun k hk => .inl hk⟩⟩)
    clear hez
    go_wp2
    go_ret3
    exact hret.out
end Go.Proofs.YtkmcnhjfnjikaaaGreatDoor
