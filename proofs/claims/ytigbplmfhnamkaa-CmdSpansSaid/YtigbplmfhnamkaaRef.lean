/- What Read and the methods of the document's own reader come to. Conditions: the reader lies in memory as it must. -/
import Derived.Test.YtigbplmfhnamkaaText
namespace Go.Proofs.Ytigbplmfhnamkaa
open Go.RowKit
/-- A new reader of these bytes. -/
def NewP (w : World) (zs : List Int) (e : Ending) (w' : World) : Prop :=
  ∃ g, e = .returned (.pointer (some ⟨g, 0, none⟩)) ∧ w.heap.size ≤ g ∧ Rdr 59 w' g g zs 0 0 ∧ Below w.heap.size w w'
def NewR (B : Nat) (w : World) (zs : List Int) (e : Ending) (w' : World) : Prop :=
  ∃ g, e = .returned (.pointer (some ⟨g, 0, none⟩)) ∧ w.heap.size ≤ g ∧ Rdr 45 w' B g zs 0 0 ∧ Below w.heap.size w w'
set_option maxHeartbeats 1000000 in
theorem pread_any (A : Option Addr) (n c : Nat) (zs : List Int) (w : World) (hn : zs.length = n) (hz : Lies w A zs) (ho : Octets zs) (hc : A = none → c = 0) (ln : n ≤ 140737488355328) :
    Calls Try.prog 20 #[.slice A n c] w (NewP w zs) := by
  have hcl := hide (clone_any A n c zs w hn hz hc ln)
  clear hc hz
  go_enter Try.func20, Try.ntmps20
  go_wp2_with (go_at_call 34; (with_reducible refine hcl.out.mono ?_); rintro x w1 ⟨A', c', rfl, hc1, hl1, hb1⟩; have hl1' := hide hl1; have hb1' := hide hb1; clear hl1 hb1)
  go_ret
  refine ⟨w1.heap.size, rfl, hb1'.out.size, ⟨⟨A', n, c', Row.new _ _ _, hn, hc1, by omega, ?_⟩, ho, by omega, Nat.le_refl _, by omega⟩, kept_alloc hb1'.out _⟩
  exact (hl1'.out.deep).keep fun k hk => Below.heap_alloc _ _ _ hk
set_option maxHeartbeats 1000000 in
theorem rread_any (A : Option Addr) (n c B : Nat) (zs : List Int) (w : World) (hn : zs.length = n) (hz : Deep w B A zs) (hB : B ≤ w.heap.size) (ho : Octets zs) (hc : n ≤ c) (ln : n ≤ 140737488355328) :
    Calls Try.prog 21 #[.slice A n c] w (NewR B w zs) := by
  have hz' := hide hz
  have hn' := hide hn
  clear hz hn
  go_enter Try.func21, Try.ntmps21
  go_wp2
  go_ret
  refine ⟨w.heap.size, rfl, Nat.le_refl _, ⟨⟨A, n, c, Row.new _ _ _, hn'.out, hc, by omega, ?_⟩, ho, by omega, hB, by omega⟩, kept_alloc (kept_refl w) _⟩
  exact hz'.out.keep fun k hk => Below.heap_alloc _ _ _ (by omega)
section
variable {w : World} {B g i : Nat} {zs : List Int} {e : Int}
set_option maxHeartbeats 1000000 in
theorem rfail_any (h : Rdr 45 w B g zs i e) (y : Int) (hy : 0 ≤ y ∧ y ≤ 9) :
    Calls Try.prog 48 #[.pointer (some ⟨g, 0, none⟩), .int .i64 y] w fun x w' => x = .returned (.tuple #[]) ∧ Rdr 45 w' B g zs i (erst e y) ∧ w.grownBy w' (some g) := by
  obtain ⟨A, c, c0, c1, c2, f1, f2, _, _, _⟩ := h.cells
  by_cases he : e = 0
  · have t0 : (e == 0) = true := by rw [he]; rfl
    have h' := hide (h.wrong hy)
    rw [he, erst_zero]
    clear he h
    go_enter Try.func48, Try.ntmps48
    go_wp2
    go_end0
    exact ⟨rfl, h'.out, grown_put (grown_refl w _) _ _⟩
  · have t0 : (e == 0) = false := by rw [beq_eq_false_iff_ne]; exact he
    have h' := hide h
    rw [erst_pos he]
    clear he h
    go_enter Try.func48, Try.ntmps48
    go_wp2
    go_end0
    exact ⟨rfl, h'.out, grown_refl w _⟩
theorem rfail_0 (h : Rdr 45 w B g zs i 0) (y : Int) (hy : 0 ≤ y ∧ y ≤ 9) :
    Calls Try.prog 48 #[.pointer (some ⟨g, 0, none⟩), .int .i64 y] w fun x w' => x = .returned (.tuple #[]) ∧ Rdr 45 w' B g zs i y ∧ w.grownBy w' (some g) := by
  have h1 := rfail_any h y hy
  rwa [erst_zero] at h1
theorem Rdr.place_to {t : TypeId} (h : Rdr t w B g zs i e) (z : Int) (j : Nat) (hz : z = j) (hj : j ≤ zs.length) : Rdr t (w.setCell ⟨g, 1, none⟩ (.int .i64 z)) B g zs j e := by
  subst hz; exact h.place hj
theorem rtests {k : Nat} {p : Int} (hk : k ≤ 9) (h : ¬ ((0 < k ∧ p = 0) ∨ (k = 9 ∧ 1 < p))) :
    (((k : Int) == 9) = false ∧ decide (0 < k) = false ∧ decide (0 < (k : Int)) = false) ∨ (((k : Int) == 9) = false ∧ decide (0 < k) = true ∧ decide (0 < (k : Int)) = true ∧ (p == 0) = false) ∨
    (((k : Int) == 9) = true ∧ decide (1 < p) = false ∧ decide (0 < k) = true ∧ decide (0 < (k : Int)) = true ∧ (p == 0) = false) := by
  rcases tests hk h with ⟨a, b, c⟩ | ⟨a, b, c, d⟩ | ⟨a, b, c, d, f⟩
  · exact .inl ⟨c, a, b⟩
  · exact .inr (.inl ⟨d, a, b, c⟩)
  · exact .inr (.inr ⟨d, f, a, b, c⟩)
theorem rtests_bad {k : Nat} {p : Int} (h : (0 < k ∧ p = 0) ∨ (k = 9 ∧ 1 < p)) :
    (((k : Int) == 9) = true ∧ decide (1 < p) = true) ∨ (((k : Int) == 9) = false ∧ decide (0 < k) = true ∧ decide (0 < (k : Int)) = true ∧ (p == 0) = true) ∨
    (((k : Int) == 9) = true ∧ decide (1 < p) = false ∧ decide (0 < k) = true ∧ decide (0 < (k : Int)) = true ∧ (p == 0) = true) := by
  by_cases h9 : k = 9
  · have a : ((k : Int) == 9) = true := by subst h9; decide
    by_cases hp : 1 < p
    · exact .inl ⟨a, decide_eq_true hp⟩
    · have h0 : 0 < k ∧ p = 0 := by omega
      exact .inr (.inr ⟨a, decide_eq_false hp, decide_eq_true h0.1, decide_eq_true (by omega), by rw [h0.2]; rfl⟩)
  · have h0 : 0 < k ∧ p = 0 := by omega
    exact .inr (.inl ⟨by rw [beq_eq_false_iff_ne]; omega, decide_eq_true h0.1, decide_eq_true (by omega), by rw [h0.2]; rfl⟩)
theorem and8_int {p : Int} {q : Nat} (h0 : 0 ≤ p) (h1 : p ≤ 255) (hq : (p % 128).toNat = q) : bits .and .u8 p 127 = (q : Int) := by
  obtain ⟨P, rfl⟩ := Int.eq_ofNat_of_zero_le h0
  rw [← hq]
  refine (and8_127 P (by omega)).trans ?_
  omega
set_option maxRecDepth 100000 in
set_option maxHeartbeats 4000000 in
theorem rnum_0 (h : Rdr 45 w B g zs i 0) :
    Calls Try.prog 37 #[.pointer (some ⟨g, 0, none⟩)] w fun x w' =>
      x = .returned (.int .i64 (rNumV zs i 0)) ∧ Rdr 45 w' B g zs (rNumA zs i 0) (rNumE zs i 0) ∧ w.grownBy w' (some g) := by
  obtain ⟨A, c, c0, c1, c2, f1, f2, lc, l, hz⟩ := h.cells
  have ho := h.oct
  have hi := h.here
  have H := hide h
  clear h
  go_enter Try.func37, Try.ntmps37
  go_wp2
  go_loopw [3, 4] (fun u j wr => ∃ k v q : Nat, i + k ≤ zs.length ∧ k ≤ 9 ∧ j = .int .i64 k ∧ u = .int .u64 v ∧ Hid (v < 128 ^ k) ∧ Hid (rdN 0 0 (zs.drop i) = rdN k v ((zs.drop i).drop k)) ∧ wr = w.drewN q) (fun _ j _ => zs.length - (intOf j).toNat)
  case atStart => exact ⟨0, 0, 0, by omega, by omega, rfl, rfl, hide (by simp), hide rfl, rfl⟩
  case round =>
    obtain ⟨k, v, q0, hk, hk9, rfl, rfl, hv, hs, rfl⟩ := hrel
    have hsum : IntKind.i64.wrap ((i : Int) + (k : Int)) = (i : Int) + (k : Int) := IntWalk.i64_in _ ⟨by omega, by omega⟩
    have hF := hide fun q => rfail_0 (H.out.drewN q)
    by_cases hlt : i + k < zs.length
    · obtain ⟨b1, o1, rfl, _, hc1⟩ := hz.at_ (k := i + k) hlt
      have o := ho.ix (i + k)
      have hd : (zs.drop i).drop k = ix zs (i + k) :: (zs.drop i).drop (k + 1) := by
        rw [List.drop_drop, List.drop_drop, drop_ix hlt]; rfl
      have t9 : decide ((zs.length : Int) ≤ (i : Int) + (k : Int)) = false := decide_eq_false (by omega)
      have HZ := hide hz; have HO := hide ho
      clear hz ho
      generalize ix zs (i + k) = p at *
      obtain ⟨p0, p1⟩ := o
      by_cases hf : (0 < k ∧ p = 0) ∨ (k = 9 ∧ 1 < p)
      · have hr := hide (rd_none (show rdN 0 0 (zs.drop i) = (0, 0, 4) by rw [hs.out, hd, rdN_form hf]))
        have ee : rNumE zs i 0 = 4 := by unfold rNumE; rw [if_pos rfl, hr.out.2.2]
        have ev : rNumV zs i 0 = 0 := by unfold rNumV; rw [ee]; rfl
        have ea : rNumA zs i 0 = i := by unfold rNumA; rw [ee]; rfl
        have he := hide ee; have hv' := hide ev; have ha := hide ea
        have ht := rtests_bad hf
        clear hf hs hv hd ee ev ea
        rcases ht with ⟨t1, t2⟩ | ⟨t1, t2, t3, t4⟩ | ⟨t1, t2, t3, t4, t5⟩
        all_goals
          go_wp2
          go_quiet (fail)
          go_wp2
          go_quiet (fail)
          go_wp2_with (go_at_call 48; (with_reducible refine (hF.out _ 4 (by omega)).mono ?_); rintro x w1 ⟨rfl, h1, hg1⟩; have h1' := hide h1; have hg' := hide hg1; clear h1 hg1)
          go_ret
          exact ⟨ret_int hv'.out.symm, by rw [he.out, ha.out]; exact h1'.out, grown_trans (grown_drewN (grown_refl w _) _) hg'.out⟩
      · obtain ⟨q, hq⟩ : ∃ q, (p % 128).toNat = q := ⟨_, rfl⟩
        have hst := step_lt hk9 hv.out p0 p1 hf
        rw [hq] at hst
        obtain ⟨U, hU⟩ : ∃ U, v + q * 128 ^ k = U := ⟨_, rfl⟩
        rw [hU] at hst
        have han : bits .and .u8 p 127 = (q : Int) := and8_int p0 p1 hq
        have hor : bits .or .u64 (v : Int) (IntKind.u64.wrap ((q : Int) * 2 ^ (7 * k))) = (U : Int) := by rw [Nat.mul_comm 7 k, or_step hv.out (by rw [hU]; exact hst.1), hU]
        have hUl := hide hst.1
        have hUs := hide hst.2
        have hq1 : q ≤ 127 := by omega
        have ht := rtests hk9 hf
        by_cases hl : p < 128
        · have hr := hide (rd_of (show rdN 0 0 (zs.drop i) = (U, k + 1, 0) by rw [hs.out, hd, rdN_last hf hl, hq, hU]))
          have ee : rNumE zs i 0 = 0 := by unfold rNumE; rw [if_pos rfl, hr.out.2.2]
          have ev : rNumV zs i 0 = zagI U := by unfold rNumV; rw [ee, if_pos rfl, hr.out.1]
          have ea : rNumA zs i 0 = i + (k + 1) := by unfold rNumA; rw [ee, if_pos rfl, hr.out.2.1]
          have he := hide ee; have hv' := hide ev; have ha := hide ea
          have tl : decide (p < 128) = true := decide_eq_true hl
          have s1 : (i : Int) + (k : Int) + 1 ≤ 4611686018427387904 := by omega
          have hpl := hide fun q' => (H.out.drewN q').place_to ((i : Int) + (k : Int) + 1) (i + (k + 1)) (by omega) (by omega)
          clear hf hs hv hd hU hst hq hl ee ev ea
          rcases ht with ⟨t1, t2, t3⟩ | ⟨t1, t2, t3, t4⟩ | ⟨t1, t2, t3, t4, t5⟩
          all_goals
            go_wp2
            go_quiet (fail)
            go_wp2
            go_quiet (fail)
            go_wp2_with (go_at_call 49; (with_reducible refine (rzag_any U _ hUl.out).mono ?_); rintro e w3 ⟨rfl, rfl⟩)
            go_ret
            exact ⟨ret_int hv'.out.symm, by rw [he.out, ha.out]; exact hpl.out _, grown_put (grown_drewN (grown_refl w _) _) _ _⟩
        · have hr := hide (show rdN 0 0 (zs.drop i) = rdN (k + 1) U ((zs.drop i).drop (k + 1)) by rw [hs.out, hd, rdN_more hf hl, hq, hU])
          have hk8 : k < 9 := by omega
          have tl : decide (p < 128) = false := decide_eq_false hl
          clear hf hs hv hd hU hst hq hl
          rcases ht with ⟨t1, t2, t3⟩ | ⟨t1, t2, t3, t4⟩ | ⟨t1, t2, t3, t4, t5⟩
          all_goals
            go_wp2
            go_quiet (fail)
            go_wp2
            go_quiet (fail)
            go_wp2
            go_roundw
            case rel => exact ⟨k + 1, U, _, by omega, by omega, by go_num, rfl, hide (hUs.out hk8), hr, rfl⟩
            case measure => simp [intOf]; omega
    · obtain rfl | hik : k = zs.length - i ∨ ¬ k = zs.length - i := by omega
      · have hr := hide (rd_none (show rdN 0 0 (zs.drop i) = (0, 0, 3) by rw [hs.out, List.drop_drop, List.drop_of_length_le (by omega)]; rfl))
        have ee : rNumE zs i 0 = 3 := by unfold rNumE; rw [if_pos rfl, hr.out.2.2]
        have ev : rNumV zs i 0 = 0 := by unfold rNumV; rw [ee]; rfl
        have ea : rNumA zs i 0 = i := by unfold rNumA; rw [ee]; rfl
        have he := hide ee; have hv' := hide ev; have ha := hide ea
        have t9 : decide ((zs.length : Int) ≤ (i : Int) + ((zs.length - i : Nat) : Int)) = true := decide_eq_true (by omega)
        clear hs hv ee ev ea
        go_wp2
        go_quiet (fail)
        go_wp2_with (go_at_call 48; (with_reducible refine (hF.out _ 3 (by omega)).mono ?_); rintro x w1 ⟨rfl, h1, hg1⟩; have h1' := hide h1; have hg' := hide hg1; clear h1 hg1)
        go_ret
        exact ⟨ret_int hv'.out.symm, by rw [he.out, ha.out]; exact h1'.out, grown_trans (grown_drewN (grown_refl w _) _) hg'.out⟩
      · omega
end
end Go.Proofs.Ytigbplmfhnamkaa
