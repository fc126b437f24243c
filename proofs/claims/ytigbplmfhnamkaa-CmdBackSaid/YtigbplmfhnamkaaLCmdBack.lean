/- Proved: the law CmdBack returns true. Conditions: none beyond the row's own. -/
import Derived.Test.YtigbplmfhnamkaaFrame
import Derived.Test.YtigbplmfhnamkaaRuns
import Derived.Test.YtigbplmfhnamkaaGets
import Derived.Test.YtigbplmfhnamkaaEncC
import Derived.Test.YtigbplmfhnamkaaWithin
import Derived.Deep.DeepCutAuto
import Derived.Deep.RegionHeld3
import Derived.LoopTactic
import Derived.Deep.Onto
namespace Go.Proofs.Ytigbplmfhnamkaa.cmdBack
open Go.ChangeShapes Go.WideShapes Go.ChangeAt Go.RowKit
theorem Try.infoCmd : (Try.prog.info? 23).map (fun i => (i.zero, i.size, i.bytes)) = some (some (.agg #[.int .i64 0, .int .i64 0, .int .i64 0, .string ⟨#[]⟩, .string ⟨#[]⟩, .string ⟨#[]⟩, .string ⟨#[]⟩]), 7, 88) := by kernel_rfl
theorem own_below {B : Nat} {e : TypeId} {k : Nat} {v : Value} {n : Nat} {xs : List Value} {w w' : World} (h : w.ownsRow B e k v n xs) (hb : Below w.heap.size w w') : w'.ownsRow B e k v n xs := by
  refine ⟨h.1, ?_⟩
  rcases h.2 with h0 | ⟨g, cap, cur, hv, hg, hh, rest⟩
  · exact .inl h0
  · refine .inr ⟨g, cap, cur, hv, hg, (hb.block g ?_).trans hh, rest⟩
    rcases Nat.lt_or_ge g w.heap.size with h1 | h1
    · exact h1
    · rw [Array.getElem?_eq_none h1] at hh; cases hh
theorem own_shapes {w : World} {base : Nat} {e : TypeId} {z : Nat} {v : Value} {n : Nat} {xs : List Value} (h : w.ownsRow base e z v n xs) : ∃ A c, v = .slice A n c ∧ n ≤ c ∧ (A = none → c = 0) := by
  rcases h.2 with ⟨rfl, rfl⟩ | ⟨g, cap, cur, rfl, _, _, hc, _⟩
  · exact ⟨none, 0, rfl, Nat.le_refl _, fun _ => rfl⟩
  · exact ⟨_, cap, rfl, hc, fun h => by cases h⟩
/-- Rows of unlike types are two. -/
theorem own_apart {B : Nat} {v u : Value} {n m : Nat} {xs ys : List Value} {w : World} (h : w.ownsRow B 5 1 v n xs) (g : w.ownsRow B 23 7 u m ys) : v.ownBlock = none ∨ v.ownBlock ≠ u.ownBlock := by
  rcases h.2 with ⟨rfl, _⟩ | ⟨i, cap, cur, rfl, _, hh, _⟩
  · exact .inl rfl
  · refine .inr ?_
    rcases g.2 with ⟨rfl, _⟩ | ⟨i', cap', cur', rfl, _, gh, _⟩
    · intro hc; cases hc
    · intro hc
      injection hc with hc
      simp only at hc
      subst hc
      rw [gh] at hh
      injection hh with hh
      injection hh with _ ht
      exact absurd ht (by decide)
theorem news_at (w : World) (x : Cm) (t : TypeId) : ∀ j u, x.l[j]? = some u → (w.alloc (.cells (rowC x) t)).cell? ((⟨w.heap.size, 0, none⟩ : Addr).add j) = some u := by
  intro j u hj
  have h := (Row.new w t (rowC x)).cell j
  have e : (rowC x)[j]? = x.l[j]? := by show (x.l.toArray)[j]? = _; simp
  rw [e, hj] at h
  rcases j with _ | j
  · exact h
  · rw [Go.WideShapes.add_plain, Nat.zero_add]; exact h
theorem one_l (x : Cm) : ∀ u ∈ x.l, u.oneCell' = true := by
  intro u hu
  unfold Cm.l at hu
  simp only [List.mem_cons, List.not_mem_nil, or_false] at hu
  rcases hu with rfl | rfl | rfl | rfl | rfl | rfl | rfl <;> rfl
/-- The bytes and the commands that they are of. -/
structure Bk (W w : World) (bv wv : Value) (k : Nat) (ws : List Cm) : Prop where
  b : w.ownsRow W.heap.size 5 1 bv (encC ws).length (cellsOf (encC ws))
  l : w.ownsRow W.heap.size 23 7 wv ws.length (cellsC ws)
  r : ∀ x ∈ ws, rightC x = true
  len : ws.length ≤ k
  old : Below W.heap.size W w
section
variable {W w w' : World} {bv wv : Value} {k : Nat} {ws : List Cm}
theorem Bk.below (s : Bk W w bv wv k ws) (hb : Below w.heap.size w w') : Bk W w' bv wv k ws := ⟨own_below s.b hb, own_below s.l hb, s.r, s.len, s.old.trans (hb.mono s.old.size)⟩
theorem Bk.drew (s : Bk W w bv wv k ws) (n : Nat) : Bk W (w.drewN n) bv wv k ws := s.below ((kept_refl w).trans (kept_drewN (kept_refl w) n))
/-- The same, while the bytes have one command more than the list. -/
structure Bm (W w : World) (bv wv : Value) (ws : List Cm) (zs : List Int) : Prop where
  b : w.ownsRow W.heap.size 5 1 bv zs.length (cellsOf zs)
  l : w.ownsRow W.heap.size 23 7 wv ws.length (cellsC ws)
  old : Below W.heap.size W w
theorem Bm.below {zs : List Int} (s : Bm W w bv wv ws zs) (hb : Below w.heap.size w w') : Bm W w' bv wv ws zs := ⟨own_below s.b hb, own_below s.l hb, s.old.trans (hb.mono s.old.size)⟩
theorem Bm.put {zs : List Int} {v : Value} {M : Nat} (s : Bk W w bv wv k ws) (ho : w'.ownsRow w.heap.size 5 1 v M (cellsOf zs)) (hM : zs.length = M) (hb : Below w.heap.size w w') : Bm W w' v wv ws zs :=
  ⟨by rw [hM]; exact ho.mono s.old.size, own_below s.l hb, s.old.trans (hb.mono s.old.size)⟩
theorem Bk.on (s : Bk W w bv wv k ws) : Bk W w bv wv (k + 1) ws := ⟨s.b, s.l, s.r, Nat.le_succ_of_le s.len, s.old⟩
end
theorem neq_cmd (k c q : Int) (a b o v : ByteArray) (w : World) :
    (binOp .neq 23 (.agg #[.int .i64 k, .int .i64 c, .int .i64 q, .string a, .string b, .string o, .string v]) (.agg #[.int .i64 k, .int .i64 c, .int .i64 q, .string a, .string b, .string o, .string v])).run Try.prog w = .ok (.bool false) w := by
  have h := eql_cmd k c q a b o v k c q a b o v w
  rw [sameC_iff.2 rfl, run_eql_struct] at h
  rw [run_neq_struct]
  generalize (Op.equalIn 10000 23 (.agg #[.int .i64 k, .int .i64 c, .int .i64 q, .string a, .string b, .string o, .string v]) (.agg #[.int .i64 k, .int .i64 c, .int .i64 q, .string a, .string b, .string o, .string v])).run Try.prog w = r at *
  cases r with
  | ok b' w' => simp at h; obtain ⟨rfl, rfl⟩ := h; simp
  | halt x w' => simp [Result.andThen] at h
/-- What lies at command j of a row of the call's own. -/
def CellsAt (w : World) (g o : Nat) (x : Cm) : Prop := w.cell? ⟨g, o, none⟩ = some (.int .i64 x.k) ∧ w.cell? ⟨g, o + 1, none⟩ = some (.int .i64 x.c) ∧ w.cell? ⟨g, o + 2, none⟩ = some (.int .i64 x.q) ∧ w.cell? ⟨g, o + 3, none⟩ = some (.string x.key) ∧
  w.cell? ⟨g, o + 4, none⟩ = some (.string x.en) ∧ w.cell? ⟨g, o + 5, none⟩ = some (.string x.old) ∧ w.cell? ⟨g, o + 6, none⟩ = some (.string x.val)
theorem own_at {w : World} {B gw c j : Nat} {ws : List Cm} {x : Cm} (h : w.ownsRow B 23 7 (.slice (some ⟨gw, 0, none⟩) ws.length c) ws.length (cellsC ws)) (hj : j < ws.length) (hx : ws[j] = x) : CellsAt w gw (j * 7) x := by
  have at_ : ∀ m, m < 7 → w.cell? ⟨gw, j * 7 + m, none⟩ = x.l[m]? := fun m hm => by
    rw [h.cellAt (j * 7 + m) (by omega), cellsC_at hj hm, hx]
  exact ⟨at_ 0 (by omega), at_ 1 (by omega), at_ 2 (by omega), at_ 3 (by omega), at_ 4 (by omega), at_ 5 (by omega), at_ 6 (by omega)⟩
/-- The reader behind j commands, the list, and what was there. -/
structure Fin (W w : World) (g : Nat) (wv : Value) (ws : List Cm) (j : Nat) : Prop where
  p : Rdr 59 w g g (encC ws) (encC (ws.take j)).length 0
  l : w.ownsRow W.heap.size 23 7 wv ws.length (cellsC ws)
  r : ∀ x ∈ ws, rightC x = true
  old : Below W.heap.size W w
  hg : W.heap.size ≤ g
section
variable {W w w' : World} {g gw c j : Nat} {wv : Value} {ws : List Cm} {x : Cm}
theorem Fin.drew (s : Fin W w g wv ws j) : Fin W w.drew g wv ws j := ⟨s.p.drewN 1, s.l, s.r, s.old.drew, s.hg⟩
theorem Fin.get (s : Fin W w g (.slice (some ⟨gw, 0, none⟩) ws.length c) ws j) (hj : j < ws.length) (hx : ws[j] = x) :
    Calls Try.prog 23 #[.pointer (some ⟨g, 0, none⟩)] w fun y w' => y = .returned (valC x) ∧ CellsAt w' gw (j * 7) x ∧ Fin W w' g (.slice (some ⟨gw, 0, none⟩) ws.length c) ws (j + 1) := by
  have hd := encC_at hj
  obtain ⟨e1, e2, e3⟩ := get_pack (s.r _ (List.getElem_mem hj)) hd
  have h := get_any s.p
  rw [e1, e2, e3, ← encC_next hj, hx] at h
  refine h.mono fun _ _ ⟨hy, hr, hg⟩ => ?_
  have hne : (Value.slice (some ⟨gw, 0, none⟩) ws.length c).ownBlock = none ∨ (Value.slice (some ⟨gw, 0, none⟩) ws.length c).ownBlock ≠ some g := by
    refine .inr fun hc => ?_
    injection hc with hc
    simp only at hc
    subst hc
    obtain ⟨⟨_, _, _, hrow, _⟩, _⟩ := s.p
    rcases s.l.2 with ⟨h0, _⟩ | ⟨i, cap, cur, hv, _, hh, _⟩
    · cases h0
    · injection hv with hv
      injection hv with hv
      injection hv with hv
      subst hv
      unfold Row at hrow
      rw [hh] at hrow
      injection hrow with hrow
      injection hrow with _ ht
      exact absurd ht (by decide)
  have hl := s.l.kept hg hne
  exact ⟨hy, own_at hl hj hx, hr, hl, s.r, s.old.grown hg s.old.size (fun k hk => by injection hk with hk; subst hk; exact s.hg), s.hg⟩
end
set_option maxRecDepth 100000 in
set_option maxHeartbeats 16000000 in
theorem walk (A : Option Addr) (n c : Nat) (it : Nat → Cm) (W : World) (t : CmsIn W A n c it) :
    Calls Try.prog 6 #[.slice A n c] W fun e w' => e = .returned (.bool true) ∧ Below W.heap.size W w' := by
  have hnc := t.le
  have hroom := t.room
  have T := hide t
  clear t
  go_enter Try.func6, Try.ntmps6
  go_wp2
  go_loopw [3, 4, 5] (fun bv wv iv wr => ∃ (k : Nat) (ws : List Cm), k ≤ 20 ∧ iv = .int .i64 k ∧ Hid (Bk W wr bv wv k ws)) (fun _ _ iv _ => 20 - (intOf iv).toNat)
  case atStart => exact ⟨0, [], by omega, rfl, hide ⟨World.ownsRow_nil W _ _ _, World.ownsRow_nil W _ _ _, (fun x hx => by cases hx), Nat.le_refl _, Below.refl _ _⟩⟩
  case round =>
    obtain ⟨k, ws, hk, rfl, st⟩ := hrel
    by_cases hlt : k < n ∧ k < 20
    · obtain ⟨b, off, rfl, hbl, hx⟩ := T.out.at_ k hlt.1
      have ok := T.out.ok k hlt.1
      generalize it k = x at *
      have hX := hide (hx.below st.out.old hbl)
      have q0 := hX.out.c0
      have q1 := hX.out.c1
      have q2 := hX.out.c2
      have q3 := hX.out.c3
      have q4 := hX.out.c4
      have q5 := hX.out.c5
      have q6 := hX.out.c6
      have s3 := ok.key
      have s4 := ok.en
      have s5 := ok.old
      have s6 := ok.val
      obtain ⟨xk, xc, xq, xa, xb, xo, xv⟩ := x
      simp only at q0 q1 q2 q3 q4 q5 q6 s3 s4 s5 s6
      obtain ⟨B, cB, rfl, hBc, hB⟩ := own_shapes st.out.b
      obtain ⟨D, cD, rfl, hDc, hD⟩ := own_shapes st.out.l
      obtain ⟨N, hN⟩ : ∃ N, (encC ws).length = N := ⟨_, rfl⟩
      have hN0 := encC_len ws
      have hw0 := st.out.len
      rw [hN] at hN0
      have t1 : decide (k < n) = true := decide_eq_true hlt.1
      have t2 : decide (k < 20) = true := decide_eq_true hlt.2
      have t3 : decide ((k : Int) < 20) = true := decide_eq_true (by omega)
      have i1 : (0 : Int) ≤ (k : Int) := by omega
      have i2 : (k : Int) < (n : Int) := by omega
      have w1 : IntKind.i64.wrap ((xa.size : Int) + (xb.size : Int)) = (xa.size : Int) + (xb.size : Int) := IntWalk.i64_in _ ⟨by omega, by omega⟩
      have w2 : IntKind.i64.wrap ((xa.size : Int) + (xb.size : Int) + (xo.size : Int)) = (xa.size : Int) + (xb.size : Int) + (xo.size : Int) := IntWalk.i64_in _ ⟨by omega, by omega⟩
      have w3 : IntKind.i64.wrap ((xa.size : Int) + (xb.size : Int) + (xo.size : Int) + (xv.size : Int)) = (xa.size : Int) + (xb.size : Int) + (xo.size : Int) + (xv.size : Int) := IntWalk.i64_in _ ⟨by omega, by omega⟩
      have hbo := st.out.b
      have hlies := Lies.of_own hbo
      have hP := fun q => cput_own B N cB (encC ws) xk xc xq xa xb xo xv (wr.drewN q) hN (hlies.drewN q) hB (by omega)
      obtain ⟨zs', hz'⟩ : ∃ z, encC ws ++ packC ⟨xk, xc, xq, xa, xb, xo, xv⟩ = z := ⟨_, rfl⟩
      obtain ⟨L, hL⟩ : ∃ L, (packC ⟨xk, xc, xq, xa, xb, xo, xv⟩).length = L := ⟨_, rfl⟩
      obtain ⟨M, hM⟩ : ∃ M, N + L = M := ⟨_, rfl⟩
      have hM' := hide (show zs'.length = M by rw [← hz', List.length_append, hN, hL, hM])
      simp only [hL, hM, hz'] at hP
      have HP := hide hP
      have hR := fun w1 => right_any xk xc xq xa xb xo xv w1
      have stN := hide (show Bk W wr (.slice B N cB) (.slice D ws.length cD) k ws by have := st.out; rwa [hN] at this)
      rw [hN]
      by_cases h5 : (500 : Int) < (xa.size : Int) + (xb.size : Int) + (xo.size : Int) + (xv.size : Int)
      · have t5 : decide ((500 : Int) < (xa.size : Int) + (xb.size : Int) + (xo.size : Int) + (xv.size : Int)) = true := decide_eq_true h5
        clear h5 s3 s4 s5 s6 hP HP hR hbo hlies hz' hL hM hM' hN0 hN
        go_wp2
        go_quiet (fail)
        go_wp2
        go_roundw
        case rel => exact ⟨k + 1, ws, by omega, by go_num, hide (stN.out.on.drew _)⟩
        case measure => simp [intOf]; omega
      · have t5 : decide ((500 : Int) < (xa.size : Int) + (xb.size : Int) + (xo.size : Int) + (xv.size : Int)) = false := decide_eq_false h5
        have hX0 := hide hx
        clear h5 s3 s4 s5 s6 hP hbo hlies
        cases hr : rightC ⟨xk, xc, xq, xa, xb, xo, xv⟩
        · have hp := pack_none hr
          rw [hp, List.append_nil] at hz'
          rw [hp] at hL
          have hM2 : N = M := by rw [← hM, ← hL]; simp
          subst hM2
          have t6 : decide (N < N) = false := decide_eq_false (by omega)
          have t7 : decide ((N : Int) < (N : Int)) = false := decide_eq_false (by omega)
          rw [hr] at hR
          have HR := hide hR
          have HZ := hide hz'
          clear hR hr hp hL hM hz' hN0 hN
          go_wp2
          go_quiet (fail)
          go_wp2_with (first
            | (go_at_call 12; (with_reducible refine (HP.out _).mono ?_); rintro e w4 ⟨v4, rfl, ho4, hb4⟩; obtain ⟨B4, c4, rfl, h4c, h4⟩ := own_shapes ho4; have m4 := hide (Bm.put (st.out.drew _) ho4 hM'.out hb4); have X4 := hide (hX0.out.below m4.out.old hbl); have q0 := X4.out.c0; have q1 := X4.out.c1; have q2 := X4.out.c2; have q3 := X4.out.c3; have q4 := X4.out.c4; have q5 := X4.out.c5; have q6 := X4.out.c6; simp only at q0 q1 q2 q3 q4 q5 q6; clear ho4 hb4)
            | (go_at_call 15; (with_reducible refine (HR.out _).mono ?_); rintro e w5 ⟨rfl, hb5⟩; have m5 := hide (m4.out.below hb5); have X5 := hide (hX0.out.below m5.out.old hbl); have q0 := X5.out.c0; have q1 := X5.out.c1; have q2 := X5.out.c2; have q3 := X5.out.c3; have q4 := X5.out.c4; have q5 := X5.out.c5; have q6 := X5.out.c6; simp only at q0 q1 q2 q3 q4 q5 q6; clear hb5))
          go_roundw
          case rel => exact ⟨k + 1, ws, by omega, by go_num, hide (by rw [← HZ.out] at m5; have := m5.out.b; have hn := hM'.out; rw [← HZ.out] at hn; exact ⟨by rw [hn] at this; rw [hn]; exact this, m5.out.l, st.out.r, Nat.le_succ_of_le st.out.len, m5.out.old⟩)⟩
          case measure => simp [intOf]; omega
        · have hp := pack_some hr
          rw [hL] at hp
          have t6 : decide (N < M) = true := decide_eq_true (by omega)
          have t7 : decide ((N : Int) < (M : Int)) = true := decide_eq_true (by omega)
          have HH := hide hr
          rw [hr] at hR
          have HR := hide hR
          have HZ := hide hz'
          obtain ⟨i0, hi, hz0, hz1, hz2⟩ := info_parts Try.infoCmd
          have hi := hide hi
          have hz0 := hide hz0
          have hz1 := hide hz1
          have hz2 := hide hz2
          clear hR hr hp hL hM hz' hN0 hN
          go_wp2
          go_quiet (fail)
          go_wp2_with (first
            | (go_at_call 12; (with_reducible refine (HP.out _).mono ?_); rintro e w4 ⟨v4, rfl, ho4, hb4⟩; obtain ⟨B4, c4, rfl, h4c, h4⟩ := own_shapes ho4; have m4 := hide (Bm.put (st.out.drew _) ho4 hM'.out hb4); have X4 := hide (hX0.out.below m4.out.old hbl); have q0 := X4.out.c0; have q1 := X4.out.c1; have q2 := X4.out.c2; have q3 := X4.out.c3; have q4 := X4.out.c4; have q5 := X4.out.c5; have q6 := X4.out.c6; simp only at q0 q1 q2 q3 q4 q5 q6; clear ho4 hb4)
            | (go_at_call 15; (with_reducible refine (HR.out _).mono ?_); rintro e w5 ⟨rfl, hb5⟩; have m5 := hide (m4.out.below hb5); have X5 := hide (hX0.out.below m5.out.old hbl); have q0 := X5.out.c0; have q1 := X5.out.c1; have q2 := X5.out.c2; have q3 := X5.out.c3; have q4 := X5.out.c4; have q5 := X5.out.c5; have q6 := X5.out.c6; simp only at q0 q1 q2 q3 q4 q5 q6; clear hb5)
            | (at_builtin; refine wpList_append_own _ rfl (.tmp 69) (.tmp 74) 47 rfl W.heap.size 23 i0 _ 7 88 Try.underlying47 hi.out hz0.out hz1.out hz2.out rfl (by omega) _ ws.length (cellsC ws) rfl (own_below m5.out.l ((Below.refl _ _).alloc (Nat.le_refl _) _)) ⟨w5.heap.size, 0, none⟩ 1 1 (Cm.l ⟨xk, xc, xq, xa, xb, xo, xv⟩) rfl rfl (news_at w5 ⟨xk, xc, xq, xa, xb, xo, xv⟩ 23) (one_l _) (by unfold maxLen; omega) (by omega) (by have := m5.out.old.size; simp; omega) ?_; intro v6 w6 ho6 hg6 _))
          have hold := m5.out.old.trans (((Below.refl w5.heap.size w5).alloc (Nat.le_refl _) (.cells (rowC ⟨xk, xc, xq, xa, xb, xo, xv⟩) 23)).mono m5.out.old.size)
          have hown := own_below m5.out.l ((Below.refl w5.heap.size w5).alloc (Nat.le_refl _) (.cells (rowC ⟨xk, xc, xq, xa, xb, xo, xv⟩) 23))
          have hbyt := own_below m5.out.b ((Below.refl w5.heap.size w5).alloc (Nat.le_refl _) (.cells (rowC ⟨xk, xc, xq, xa, xb, xo, xv⟩) 23))
          have hg7 : (w5.alloc (.cells (rowC ⟨xk, xc, xq, xa, xb, xo, xv⟩) 23)).grownBy w6 (Value.slice D ws.length cD).ownBlock := hg6
          have m7 := hide (show Bk W w6 (.slice B4 M c4) v6 (k + 1) (ws ++ [⟨xk, xc, xq, xa, xb, xo, xv⟩]) from
            ⟨by rw [encC_snoc, HZ.out]; exact hbyt.kept hg7 (own_apart hbyt hown), by rw [cellsC_snoc, List.length_append]; exact ho6,
              fun y hy => by
                rcases List.mem_append.1 hy with hy | hy
                · exact st.out.r y hy
                · rw [List.mem_singleton] at hy; rw [hy]; exact HH.out,
              by rw [List.length_append]; have := st.out.len; simp; omega, hold.grown hg7 hold.size (fun j hj => (hown.lt j hj).1)⟩)
          clear hold hown hbyt hg7 hg6 ho6
          refine ⟨⟨k + 1, ws ++ [⟨xk, xc, xq, xa, xb, xo, xv⟩], by omega, by go_num, m7⟩, ?_⟩
          simp [intOf]; omega
    · have hc : (decide (k < n) = false) ∨ (decide (k < n) = true ∧ decide (k < 20) = false ∧ decide ((k : Int) < 20) = false) := by
        by_cases h1 : k < n
        · exact .inr ⟨decide_eq_true h1, decide_eq_false (by omega), decide_eq_false (by omega)⟩
        · exact .inl (decide_eq_false h1)
      clear hlt
      obtain ⟨B, cB, rfl, hBc, hB⟩ := own_shapes st.out.b
      obtain ⟨D, cD, rfl, hDc, hD⟩ := own_shapes st.out.l
      obtain ⟨N, hN⟩ : ∃ N, (encC ws).length = N := ⟨_, rfl⟩
      have hN0 := encC_len ws
      have hw0 := st.out.len
      rw [hN] at hN0
      have hlies := Lies.of_own st.out.b
      have HP := hide (pread_any B N cB (encC ws) wr hN hlies (octets_encC ws) hB (by omega))
      rw [hN]
      clear hlies hN0 hnc hroom T
      rcases hc with t1 | ⟨t1, t2, t3⟩
      all_goals
        go_wp2_with (go_at_call 20; (with_reducible refine HP.out.mono ?_); rintro e w4 ⟨g, rfl, hg, hp, hb4⟩; have fin := hide (show Fin W w4 g (.slice D ws.length cD) ws 0 from ⟨hp, own_below st.out.l hb4, st.out.r, st.out.old.trans (hb4.mono st.out.old.size), Nat.le_trans st.out.old.size hg⟩); clear hp hb4 hg)
        clear HP st hB hBc
        go_loopw [8] (fun iv w5 => ∃ j : Nat, j ≤ ws.length ∧ iv = .int .i64 j ∧ Hid (Fin W w5 g (.slice D ws.length cD) ws j)) (fun iv _ => ws.length - (intOf iv).toNat)
        case atStart => exact ⟨0, by omega, rfl, fin⟩
        case round =>
          clear fin
          obtain ⟨j, hj, rfl, fin⟩ := hrel
          by_cases hlt : j < ws.length
          · have u1 : decide (j < ws.length) = true := decide_eq_true hlt
            have i1 : (0 : Int) ≤ (j : Int) := by omega
            have i2 : (j : Int) < (ws.length : Int) := by omega
            obtain ⟨gw, rfl⟩ : ∃ gw, D = some ⟨gw, 0, none⟩ := by
              rcases fin.out.l.2 with ⟨_, h0⟩ | ⟨gw, cap, cur, hv, _⟩
              · omega
              · injection hv with hv; exact ⟨gw, hv⟩
            obtain ⟨y, hy⟩ : ∃ y, ws[j] = y := ⟨_, rfl⟩
            obtain ⟨y0, y1, y2, y3, y4, y5, y6⟩ := own_at fin.out.l hlt hy
            have hG := fun w1 (s : Fin W w1 g (.slice (some ⟨gw, 0, none⟩) ws.length cD) ws j) => s.get hlt hy
            unfold valC at hG
            obtain ⟨yk, yc, yq, ya, yb, yo, yv⟩ := y
            simp only at y0 y1 y2 y3 y4 y5 y6 hG
            have HG := hide hG
            have hne := neq_cmd yk yc yq ya yb yo yv
            clear hG hy
            go_upto_region 17 with (fail)
            go_region_held3 (fun w' => w'.cell? ⟨gw, j * 7, none⟩ = some (.int .i64 yk) ∧ w'.cell? ⟨gw, j * 7 + 1, none⟩ = some (.int .i64 yc) ∧ w'.cell? ⟨gw, j * 7 + 2, none⟩ = some (.int .i64 yq) ∧ w'.cell? ⟨gw, j * 7 + 3, none⟩ = some (.string ya) ∧ w'.cell? ⟨gw, j * 7 + 4, none⟩ = some (.string yb) ∧ w'.cell? ⟨gw, j * 7 + 5, none⟩ = some (.string yo) ∧ w'.cell? ⟨gw, j * 7 + 6, none⟩ = some (.string yv)) (go_keep)
              (first
                | (go_at_call 23; (with_reducible refine (HG.out _ (by first | with_reducible exact fin.out | with_reducible exact Fin.drew fin.out)).mono ?_); rintro e w6 ⟨rfl, ⟨z0, z1, z2, z3, z4, z5, z6⟩, f6⟩; simp only at z0 z1 z2 z3 z4 z5 z6; have f6 := hide f6))
            all_goals
              go_wp2
              go_roundw
              case rel => exact ⟨j + 1, by omega, by go_num, by first | exact f6 | exact hide f6.out.drew⟩
              case measure => simp [intOf]; omega
          · obtain rfl : j = ws.length := by omega
            have u1 : decide (ws.length < ws.length) = false := decide_eq_false (by omega)
            have hE := pend_any fin.out.p
            have hE0 : rEndE (encC ws) (encC (ws.take ws.length)).length 0 = 0 := by unfold rEndE; rw [List.take_length, if_pos rfl, if_neg (by omega)]
            rw [hE0] at hE
            have HE := hide hE
            clear hE hE0 hlt hj
            go_wp2_with (first
              | (go_at_call 26; (with_reducible refine HE.out.mono ?_); rintro e w7 ⟨rfl, _, hg7⟩; have old7 := hide (fin.out.old.grown hg7 fin.out.old.size (fun k hk => by injection hk with hk; subst hk; exact fin.out.hg)); clear hg7)
              | (go_at_call 3; (with_reducible refine (runs_any _).mono ?_); rintro e w9 ⟨rfl, k9⟩))
            go_ret
            exact ⟨rfl, old7.out.trans (k9.mono old7.out.size)⟩
set_option maxRecDepth 100000 in
theorem lifted (os : Os) (started : os.Started) (H : Type) (enc : TypeId × Value → H) :
    ReturnsInHanded {} Try.checked os 6 .any (Rows.cmdBackSpec.pre6 enc Try.prog Try.f6 Rows.cmdBackRow.domain false) (Rows.cmdBackSpec.post enc Try.prog Try.f6 false true false false) := by
  refine returnsInHanded_of_change_sized (C := Try.checked) own started (by kernel_rfl) Try.func6
    (ChangeSpec.witness6 (enc := enc) (C := Try.checked) false ⟨#[], #[.slice none 0 0], []⟩ 8 (by kernel_rfl) (by kernel_rfl) (by kernel_rfl) (by kernel_rfl)) ?_
  intro W base args ds gs before hval0 hW _ hsz0 _
  have hval : ∀ (j : Nat) t v, Try.f6.params[j]? = some t → args[j]? = some v → Value.okWide Try.prog W .any base t v := hval0
  have hW' := hW
  obtain ⟨p, q, hA0, hV, rfl, _, _⟩ := hW
  have hA : DataW.TrodAll enc Try.prog W 0 (fun _ => true) true Try.f6.params.toList args.toList ds p := hA0
  have hsz : (DataW.weightsEach Try.prog (Try.f6.params.toList ++ Rows.cmdBackSpec.plain.varTypes Try.prog) (ds ++ gs)).all (· ≤ reachBytes) = true := hsz0
  rw [Try.params6] at hA hval hsz
  obtain ⟨v0, vs0, d0, ds0, p0, q0, hargs, rfl, rfl, h0, r0⟩ := trodAll_cons hA
  obtain ⟨rfl, rfl, rfl⟩ := trodAll_nil r0
  obtain rfl : args = #[v0] := by cases args; simp_all
  obtain ⟨rfl, rfl⟩ := trodVars_none hV
  have k0 := h0
  have lt0 : ∀ x ∈ p0, x.block < W.heap.size := by obtain ⟨m, hm⟩ := k0; exact DataW.trod_lt m _ _ _ hm
  obtain ⟨A0, n0, c0, rfl⟩ := okWide_slice Try.underlying47 (hval 0 47 v0 rfl rfl)
  obtain ⟨z0, s0⟩ := cmds_in (j := 0) h0 hsz rfl rfl
  clear hA0 hval0
  refine (walk A0 n0 c0 z0 W s0).mono fun e W' ⟨he, bel⟩ => ?_
  subst he
  exact ⟨_, rfl, _, _, _, [], _, [], hW', trodAll_mk1 (shut_bool Try.underlying4 _), (trodAll_cons_mk (Below.trod laidOut (by kernel_rfl) (of_decide_eq_true (by kernel_rfl)) k0 bel lt0) trodAll_mk0), rfl, bel.frame _, fun h => by cases h⟩
theorem over : Rows.cmdBackRow.holds Try.pinned (OpenSpec.ofChange Rows.cmdBackSpec) :=
  OpenClaim.holds_of_wide 6 Try.f6 rfl rfl rfl rfl rfl rfl rfl ⟨rfl, rfl, rfl, rfl, rfl⟩ rfl rfl rfl rfl rfl (by kernel_rfl) Try.func6 (by kernel_rfl)
    (of_decide_eq_true (by kernel_rfl)) (by unfold Func.isWrapper; first | (rw [if_pos (by decide +kernel)]; kernel_rfl) | (rw [if_neg (by decide +kernel)]; exact ⟨rfl, rfl⟩))
    (fun os started H enc _ => lifted os started H enc)
theorem proved : Rows.CmdBackSaid := over
end Go.Proofs.Ytigbplmfhnamkaa.cmdBack
