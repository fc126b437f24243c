/- The document's Prepared. Conditions: what was said lies in memory, at most a thousand; the cells' attributes are eight numbers. -/
import Derived.Test.YtjkdccokiaejhaaQi
import Derived.LoopTactic
import Derived.Deep.CutBlock
import Derived.Deep.DeepCutAuto
namespace Go.Proofs.Ytjkdccokiaejhaa
set_option maxRecDepth 100000
open Go.RowKit
/-- What is so of the one at hand in all worlds that keep what is there. -/
def HereP (w : World) (q off k : Nat) (e : Int × Cl) : Prop := ∀ wz, Below w.heap.size w wz → SdAt wz q (off + k * 22) e
theorem here_of {W : World} {A : Option Addr} {l : List (Int × Cl)} (h : Sds W A l) {k : Nat} {e : Int × Cl} (hk : l[k]? = some e) {q off : Nat} (hA : A = some ⟨q, off, none⟩) : HereP W q off k e := fun wz hz => by
  obtain ⟨q', o', e', h2⟩ := (h.below hz).at_ hk
  rw [hA] at e'
  cases e'
  exact h2
/-- While the last loop goes on: the answer's blocks, the best one's, the first one's. -/
structure Prr (W w : World) (s f : Cl) (g1 g2 : Nat) : Prop where
  p : Pq W w zeroC zero8
  s : CeAt w g1 34 s
  f : CeAt w g2 34 f
  n : g1 ≠ g2
  l1 : W.heap.size + 1 < g1
  l2 : W.heap.size + 1 < g2
section
variable {W w w' : World} {s f s' : Cl} {g1 g2 : Nat}
theorem Prr.kept (h : Prr W w s f g1 g2) (hb : Below w.heap.size w w') : Prr W w' s f g1 g2 := ⟨h.p.kept hb, h.s.kept hb, h.f.kept hb, h.n, h.l1, h.l2⟩
theorem Prr.drew (h : Prr W w s f g1 g2) : Prr W w.drew s f g1 g2 := h.kept (kept_drewN (kept_refl w) 1)
theorem Pq.far {x : Cm} {y : List Int} (h : Pq W w x y) (hg : w.grownBy w' (some g1)) (l : W.heap.size + 1 < g1) : Pq W w' x y := ⟨below_own h.low hg (by omega), h.c.grown hg (by simp; omega), h.a.grown hg (by simp; omega)⟩
theorem Prr.puts (h : Prr W w s f g1 g2) (hn : CeAt w' g1 34 s') (hg : w.grownBy w' (some g1)) : Prr W w' s' f g1 g2 := ⟨h.p.far hg h.l1, hn, h.f.other hg h.n.symm, h.n, h.l1, h.l2⟩
theorem Prr.putf (h : Prr W w s f g1 g2) (hn : CeAt w' g2 34 s') (hg : w.grownBy w' (some g2)) : Prr W w' s s' g1 g2 := ⟨h.p.far hg h.l2, h.s.other hg h.n, hn, h.n, h.l1, h.l2⟩
theorem Prr.start (h : Pq W w zeroC zero8) : Prr W ((w.alloc (.cells (clC zeroCl) 34)).alloc (.cells (clC zeroCl) 34)) zeroCl zeroCl w.heap.size (w.heap.size + 1) := by
  have h1 := CeAt.new (x := zeroCl) rfl w 34
  have h2 := CeAt.new (x := zeroCl) rfl (w.alloc (.cells (clC zeroCl) 34)) 34
  rw [show (w.alloc (.cells (clC zeroCl) 34)).heap.size = w.heap.size + 1 by simp] at h2
  have l := h.a.lt
  exact ⟨h.kept (kept_alloc (kept_alloc (kept_refl w) _) _), h1.kept (kept_alloc (kept_refl _) _), h2, by omega, by omega, by omega⟩
end
theorem find_at {l : List (Int × Cl)} {k : Nat} {e : Int × Cl} (hn : ∀ j f, j < k → l[j]? = some f → f.2.st ≠ 3) (he : l[k]? = some e) (h3 : e.2.st = 3) : (l.find? fun e => decide (e.2.st = 3)) = some e := by
  have hk : k < l.length := (List.getElem?_eq_some_iff.1 he).1
  have e1 : l = l.take k ++ (e :: l.drop (k + 1)) := by
    have h2 : l.drop k = e :: l.drop (k + 1) := by
      rw [List.drop_eq_getElem_cons hk]
      congr 1
      exact (List.getElem?_eq_some_iff.1 he).2
    rw [← h2, List.take_append_drop]
  have e2 : (l.take k).find? (fun e => decide (e.2.st = 3)) = none := find_no fun f hf => by
    obtain ⟨j, hj⟩ := List.getElem?_of_mem hf
    have hjk : j < k := by
      have := (List.getElem?_eq_some_iff.1 hj).1
      rw [List.length_take] at this
      omega
    rw [List.getElem?_take_of_lt hjk] at hj
    exact hn j f hjk hj
  rw [e1, List.find?_append, e2, List.find?_cons]
  simp [h3]
theorem Bi.no {st : Int} {l : List (Int × Cl)} {k : Nat} {b : Int} {e : Int × Cl} (h : Bi st l k b) (he : l[k]? = some e) (hn : e.2.st ≠ st) : Bi st l (k + 1) b := by
  have hbe : bestF st (bestL st none (l.take k)) e = bestL st none (l.take k) := if_neg hn
  rcases h with ⟨h1, h⟩ | ⟨j, f, h1, hjk, hf, h⟩
  · exact .inl ⟨h1, by rw [best_take st he, hbe, h]⟩
  · exact .inr ⟨j, f, h1, by omega, hf, by rw [best_take st he, hbe, h]⟩
set_option maxHeartbeats 16000000 in
theorem rprep_any {n : Nat} {owner : Int} {A : Option Addr} {m c : Nat} {l : List (Int × Cl)} {w : World} (hn : n ≤ 100) (hm : l.length = m) (hl : Sds w A l) (h1000 : m ≤ 1000) :
    Calls Try.prog 29 #[.int .i64 (n : Nat), .int .i64 owner, .slice A m c] w fun e w' => e = .returned (.tuple #[.int .i64 (prepL n owner l).1, cmA (prepL n owner l).2.1, .agg (cA (prepL n owner l).2.2)]) ∧ Below w.heap.size w w' := by
  have HL := hide hl
  have HM := hide hm
  obtain ⟨P, hP⟩ : ∃ P, prepL n owner l = P := ⟨_, rfl⟩
  rw [hP]
  unfold prepL at hP
  rw [hm] at hP
  have HP0 := hide (show Pq w ((w.alloc (.cells #[.int .i64 0, .int .i64 0, .int .i64 0, .string ⟨#[]⟩, .string ⟨#[]⟩, .string ⟨#[]⟩, .string ⟨#[]⟩] 32)).alloc (.cells #[.int .i64 0, .int .i64 0, .int .i64 0, .int .i64 0, .int .i64 0, .int .i64 0, .int .i64 0, .int .i64 0] 26)) zeroC zero8 from Pq.start w)
  obtain ⟨S, hS⟩ : ∃ S, n / 2 + 1 = S := ⟨_, rfl⟩
  have HSL := hide (fun w => rslow_any n (by omega) w)
  rw [hS] at HSL hP
  have hS1 : 1 ≤ S := by omega
  have hS2 : S ≤ 1000 := by omega
  have HSV := hide hS
  clear hl hm hS
  by_cases hlt : m < S
  · have hlti : (m : Int) < (S : Int) := by omega
    rw [if_pos hlt] at hP
    have HPL := hide hP
    clear hP
    go_enter Try.func29, Try.ntmps29
    go_upto_region 1 with (fail)
    generalize (w.alloc (.cells #[.int .i64 0, .int .i64 0, .int .i64 0, .string ⟨#[]⟩, .string ⟨#[]⟩, .string ⟨#[]⟩, .string ⟨#[]⟩] 32)).alloc (.cells #[.int .i64 0, .int .i64 0, .int .i64 0, .int .i64 0, .int .i64 0, .int .i64 0, .int .i64 0, .int .i64 0] 26) = w1 at HP0 ⊢
    go_wp2_with (first
      | (go_at_call 19; (with_reducible refine (HSL.out _).mono ?_); rintro e w7 ⟨rfl, hw⟩; subst hw)
      | ((with_reducible refine wpList_store_cm (y := zeroC) (z := zeroC) ?_ ?_ HP0.out.c ?_); rfl; rfl; intro w6 hn hg; have HP := hide (HP0.out.putc hn hg); clear hn hg)
      | ((with_reducible refine wpList_store_at (y := zero8) (z := zero8) rfl ?_ ?_ HP.out.a rfl ?_); rfl; rfl; intro w6' hn hg; replace HP := hide (HP.out.puta hn hg); clear hn hg))
    exact bodyPost_ret (results_prep Try.results29 rfl rfl HP.out.c rfl HP.out.a rfl) rfl ⟨by rw [← HPL.out]; rfl, HP.out.low⟩
  · have hlti : ¬ (m : Int) < (S : Int) := by omega
    rw [if_neg hlt] at hP
    have HSZ := hide (Nat.le_refl w.heap.size)
    go_enter Try.func29, Try.ntmps29
    go_upto_region 1 with (fail)
    generalize (w.alloc (.cells #[.int .i64 0, .int .i64 0, .int .i64 0, .string ⟨#[]⟩, .string ⟨#[]⟩, .string ⟨#[]⟩, .string ⟨#[]⟩] 32)).alloc (.cells #[.int .i64 0, .int .i64 0, .int .i64 0, .int .i64 0, .int .i64 0, .int .i64 0, .int .i64 0, .int .i64 0] 26) = w1 at HP0 ⊢
    have HP := HP0
    clear HP0
    have HPL := hide hP
    clear hP
    go_wp2_with (first
      | (go_at_call 19; (with_reducible refine (HSL.out _).mono ?_); rintro e w7 ⟨rfl, hw⟩; subst hw))
    clear HSL
    go_loopw [9] (fun i wr => ∃ k : Nat, k ≤ m ∧ i = .int .i64 k ∧ Hid (∀ j e, j < k → l[j]? = some e → e.2.st ≠ 3) ∧ Hid (Pq w wr zeroC zero8)) (fun i _ => m - (intOf i).toNat)
    case atStart => exact ⟨0, Nat.zero_le _, rfl, hide (fun _ _ h => absurd h (Nat.not_lt_zero _)), HP⟩
    case round =>
      clear HP
      obtain ⟨k, hk, rfl, HNO, HP⟩ := hrel
      by_cases hkm : k < m
      · have hkmi : (k : Int) < (m : Int) := by omega
        obtain ⟨e, he⟩ : ∃ e, l[k]? = some e := ⟨_, List.getElem?_eq_getElem (by rw [HM.out]; exact hkm)⟩
        obtain ⟨q, off, hA, _⟩ := (HL.out.below HP.out.low).at_ he
        subst hA
        have HX := hide (here_of HL.out he rfl)
        have he8 := HL.out.a8 e (List.mem_of_getElem? he)
        have HE := hide he
        clear he
        have s0 := (HX.out wr HP.out.low).st
        by_cases h3 : e.2.st = 3
        · replace HPL := hide (show ((1 : Int), e.2.c, e.2.a) = P from by have h := HPL.out; rw [find_at HNO.out HE.out h3] at h; exact h)
          rw [h3] at s0
          clear h3
          go_upto_region 7 with (fail)
          clear s0
          refine wp_region_noPanic ?_
          refine wp_region_U 14 (fun wz => Below w.heap.size w wz) (by kernel_rfl) ?_
          replace HP := hide HP.out.drew
          generalize wr.drew = wd at HP ⊢
          have HD := hide HP.out.low
          refine anyU_take2 (i := 0) (v := .slice (some ⟨q, off, none⟩) m c) (by simp only [List.getElem?_toArray, List.getElem?_cons_zero]; exact rfl) (by kernel_rfl) 12 (by kernel_rfl) (by kernel_rfl) (fun _ _ _ h => h) (by kernel_rfl) (by kernel_rfl) (by kernel_rfl) (by kernel_rfl) (Or.inl ⟨by rfl, fun w hSw => (by go_simp; try with_reducible rfl)⟩) (by with_reducible exact HD.out) ?_
          try simp only [Act.put, List.setIfInBounds_toArray, List.set_cons_zero, List.set_cons_succ]
          refine anyU_take2 (i := 1) (v := .int .i64 (k : Nat)) (by simp only [List.getElem?_toArray, List.getElem?_cons_succ, List.getElem?_cons_zero]; exact rfl) (by kernel_rfl) 12 (by kernel_rfl) (by kernel_rfl) (fun _ _ _ h => h) (by kernel_rfl) (by kernel_rfl) (by kernel_rfl) (by kernel_rfl) (Or.inl ⟨by rfl, fun w hSw => (by go_simp; try with_reducible rfl)⟩) (by with_reducible exact HD.out) ?_
          try simp only [Act.put, List.setIfInBounds_toArray, List.set_cons_zero, List.set_cons_succ]
          refine anyU_take2 (i := 2) (v := .pointer (some ⟨q, off + k * 22, none⟩)) (by simp only [List.getElem?_toArray, List.getElem?_cons_succ, List.getElem?_cons_zero]; exact rfl) (by kernel_rfl) 12 (by kernel_rfl) (by kernel_rfl) (fun _ _ _ h => h) (by kernel_rfl) (by kernel_rfl) (by kernel_rfl) (by kernel_rfl) (Or.inl ⟨by rfl, fun w hSw => (by go_simp; try with_reducible rfl)⟩) (by with_reducible exact HD.out) ?_
          try simp only [Act.put, List.setIfInBounds_toArray, List.set_cons_zero, List.set_cons_succ]
          refine anyU_take2 (i := 3) (v := .pointer (some ⟨q, off + k * 22 + 1, none⟩)) (by simp only [List.getElem?_toArray, List.getElem?_cons_succ, List.getElem?_cons_zero]; exact rfl) (by kernel_rfl) 12 (by kernel_rfl) (by kernel_rfl) (fun _ _ _ h => h) (by kernel_rfl) (by kernel_rfl) (by kernel_rfl) (by kernel_rfl) (Or.inl ⟨by rfl, fun w hSw => (by go_simp; try with_reducible rfl)⟩) (by with_reducible exact HD.out) ?_
          try simp only [Act.put, List.setIfInBounds_toArray, List.set_cons_zero, List.set_cons_succ]
          refine anyU_take2 (i := 4) (v := .pointer (some ⟨q, off + k * 22 + 1 + 5, none⟩)) (by simp only [List.getElem?_toArray, List.getElem?_cons_succ, List.getElem?_cons_zero]; exact rfl) (by kernel_rfl) 12 (by kernel_rfl) (by kernel_rfl) (fun _ _ _ h => h) (by kernel_rfl) (by kernel_rfl) (by kernel_rfl) (by kernel_rfl) (Or.inl ⟨by rfl, fun w hSw => (by go_simp; try with_reducible rfl)⟩) (by with_reducible exact HD.out) ?_
          try simp only [Act.put, List.setIfInBounds_toArray, List.set_cons_zero, List.set_cons_succ]
          refine anyU_take2 (i := 5) (v := .agg (rowC e.2.c)) (by simp only [List.getElem?_toArray, List.getElem?_cons_succ, List.getElem?_cons_zero]; exact rfl) (by kernel_rfl) 12 (by kernel_rfl) (by kernel_rfl) (fun _ _ _ h => h) (by kernel_rfl) (by kernel_rfl) (by kernel_rfl) (by kernel_rfl) (Or.inl ⟨by rfl, fun w hSw => exec_load_gp (cs := e.2.c.l) rfl rfl (HX.out _ hSw).cm cm_under rfl cm_info⟩) (by with_reducible exact HD.out) ?_
          try simp only [Act.put, List.setIfInBounds_toArray, List.set_cons_zero, List.set_cons_succ]
          refine anyU_take2 (i := 6) (v := .slice (some ⟨q, off, none⟩) m c) (by simp only [List.getElem?_toArray, List.getElem?_cons_succ, List.getElem?_cons_zero]; exact rfl) (by kernel_rfl) 12 (by kernel_rfl) (by kernel_rfl) (fun _ _ _ h => h) (by kernel_rfl) (by kernel_rfl) (by kernel_rfl) (by kernel_rfl) (Or.inl ⟨by rfl, fun w hSw => (by go_simp; try with_reducible rfl)⟩) (by with_reducible exact HD.out) ?_
          try simp only [Act.put, List.setIfInBounds_toArray, List.set_cons_zero, List.set_cons_succ]
          refine anyU_take2 (i := 7) (v := .int .i64 (k : Nat)) (by simp only [List.getElem?_toArray, List.getElem?_cons_succ, List.getElem?_cons_zero]; exact rfl) (by kernel_rfl) 12 (by kernel_rfl) (by kernel_rfl) (fun _ _ _ h => h) (by kernel_rfl) (by kernel_rfl) (by kernel_rfl) (by kernel_rfl) (Or.inl ⟨by rfl, fun w hSw => (by go_simp; try with_reducible rfl)⟩) (by with_reducible exact HD.out) ?_
          try simp only [Act.put, List.setIfInBounds_toArray, List.set_cons_zero, List.set_cons_succ]
          refine anyU_take2 (i := 8) (v := .pointer (some ⟨q, off + k * 22, none⟩)) (by simp only [List.getElem?_toArray, List.getElem?_cons_succ, List.getElem?_cons_zero]; exact rfl) (by kernel_rfl) 12 (by kernel_rfl) (by kernel_rfl) (fun _ _ _ h => h) (by kernel_rfl) (by kernel_rfl) (by kernel_rfl) (by kernel_rfl) (Or.inl ⟨by rfl, fun w hSw => (by go_simp; try with_reducible rfl)⟩) (by with_reducible exact HD.out) ?_
          try simp only [Act.put, List.setIfInBounds_toArray, List.set_cons_zero, List.set_cons_succ]
          refine anyU_take2 (i := 9) (v := .pointer (some ⟨q, off + k * 22 + 1, none⟩)) (by simp only [List.getElem?_toArray, List.getElem?_cons_succ, List.getElem?_cons_zero]; exact rfl) (by kernel_rfl) 12 (by kernel_rfl) (by kernel_rfl) (fun _ _ _ h => h) (by kernel_rfl) (by kernel_rfl) (by kernel_rfl) (by kernel_rfl) (Or.inl ⟨by rfl, fun w hSw => (by go_simp; try with_reducible rfl)⟩) (by with_reducible exact HD.out) ?_
          try simp only [Act.put, List.setIfInBounds_toArray, List.set_cons_zero, List.set_cons_succ]
          refine anyU_take2 (i := 10) (v := .pointer (some ⟨q, off + k * 22 + 1 + 12, none⟩)) (by simp only [List.getElem?_toArray, List.getElem?_cons_succ, List.getElem?_cons_zero]; exact rfl) (by kernel_rfl) 12 (by kernel_rfl) (by kernel_rfl) (fun _ _ _ h => h) (by kernel_rfl) (by kernel_rfl) (by kernel_rfl) (by kernel_rfl) (Or.inl ⟨by rfl, fun w hSw => (by go_simp; try with_reducible rfl)⟩) (by with_reducible exact HD.out) ?_
          try simp only [Act.put, List.setIfInBounds_toArray, List.set_cons_zero, List.set_cons_succ]
          refine anyU_take2 (i := 11) (v := .agg (cA e.2.a)) (by simp only [List.getElem?_toArray, List.getElem?_cons_succ, List.getElem?_cons_zero]; exact rfl) (by kernel_rfl) 12 (by kernel_rfl) (by kernel_rfl) (fun _ _ _ h => h) (by kernel_rfl) (by kernel_rfl) (by kernel_rfl) (by kernel_rfl) (Or.inl ⟨by rfl, fun w hSw => exec_load_gp rfl rfl (HX.out _ hSw).at at_under rfl (at_sz he8)⟩) (by with_reducible exact HD.out) ?_
          try simp only [Act.put, List.setIfInBounds_toArray, List.set_cons_zero, List.set_cons_succ]
          refine anyU_take2 (i := 12) (v := .int .i64 1) (by simp only [List.getElem?_toArray, List.getElem?_cons_succ, List.getElem?_cons_zero]; exact rfl) (by kernel_rfl) 12 (by kernel_rfl) (by kernel_rfl) (fun _ _ _ h => h) (by kernel_rfl) (by kernel_rfl) (by kernel_rfl) (by kernel_rfl) (Or.inl ⟨by rfl, fun w hSw => (by go_simp; try with_reducible rfl)⟩) (by with_reducible exact HD.out) ?_
          try simp only [Act.put, List.setIfInBounds_toArray, List.set_cons_zero, List.set_cons_succ]
          refine anyU_one (i := 13) (by kernel_rfl) (by simp only [List.getElem?_toArray, List.getElem?_cons_succ, List.getElem?_cons_zero]; exact rfl) (fun K hK => ?_)
          rw [if_pos (by rfl)]
          refine wp_store_cm rfl rfl rfl HP.out.c ?_
          intro wp hn hg
          replace HP := hide (HP.out.putc hn hg)
          replace HD := hide (below_own HD.out hg HSZ.out)
          clear hn hg
          refine hK.out _ _ (fun _ _ => HD.out) ?_
          clear hK K
          try simp only [Act.put]
          refine anyU_one (i := 14) (by kernel_rfl) (by simp only [List.getElem?_toArray, List.getElem?_cons_succ, List.getElem?_cons_zero]; exact rfl) (fun K hK => ?_)
          rw [if_pos (by rfl)]
          refine wp_store_at rfl he8 rfl rfl HP.out.a rfl ?_
          intro wq hn hg
          replace HP := hide (HP.out.puta hn hg)
          clear hn hg
          refine hK.out _ _ (fun e _ => absurd rfl e) ?_
          clear hK K
          try simp only [Act.put]
          refine anyU_done (by kernel_rfl) ?_
          refine NoPanic.normal ?_
          try simp only [Act.put]
          go_wp2
          exact bodyPost_ret (results_prep Try.results29 rfl rfl HP.out.c rfl HP.out.a he8) rfl ⟨by rw [← HPL.out]; rfl, HP.out.low⟩
        · have h3b : (e.2.st == 3) = false := by simpa using h3
          have H3 := hide h3
          clear h3
          go_wp2
          go_roundw
          case rel => exact ⟨k + 1, by omega, by go_num, hide (fun j f hj hf => by
            rcases Nat.lt_or_ge j k with h | h
            · exact HNO.out j f h hf
            · obtain rfl : j = k := by omega
              rw [HE.out] at hf
              cases hf
              exact H3.out), HP⟩
          case measure => simp [intOf]; omega
      · have hkmi : ¬ (k : Int) < (m : Int) := by omega
        have hkk : k = m := by omega
        replace HPL := hide (show (match bestL 2 none l with
      | some c => ((2 : Int), c.c, c.a)
      | none => match bestL 1 none l with
        | none => (4, zeroC, zero8)
        | some c => if (l.all fun e => decide (e.1 ≠ owner)) && decide (n / 2 ≤ (sameL owner l).length) then (2, ((sameL owner l).headD (0, zeroCl)).2.c, ((sameL owner l).headD (0, zeroCl)).2.a)
          else (3, c.c, c.a)) = P from by
          have h := HPL.out
          rw [find_no (fun e he => by
            obtain ⟨j, hj⟩ := List.getElem?_of_mem he
            exact HNO.out j e (by have := (List.getElem?_eq_some_iff.1 hj).1; rw [HM.out] at this; omega) hj)] at h
          exact h)
        clear hkk HNO
        go_wp2
        go_loopw [10, 11] (fun b i wr => ∃ (k : Nat) (bi : Int), k ≤ m ∧ b = .int .i64 bi ∧ i = .int .i64 k ∧ Hid (Bi 2 l k bi) ∧ Hid (Pq w wr zeroC zero8)) (fun _ i _ => m - (intOf i).toNat)
        case atStart => exact ⟨0, -1, Nat.zero_le _, rfl, rfl, hide (.inl ⟨rfl, rfl⟩), HP⟩
        case round =>
          clear HP hkm hkmi hk
          obtain ⟨k, bi, hk, rfl, rfl, HBI, HP⟩ := hrel
          by_cases hkm : k < m
          · have hkmi : (k : Int) < (m : Int) := by omega
            obtain ⟨e, he⟩ : ∃ e, l[k]? = some e := ⟨_, List.getElem?_eq_getElem (by rw [HM.out]; exact hkm)⟩
            obtain ⟨q, off, hA, _⟩ := (HL.out.below HP.out.low).at_ he
            subst hA
            have HX := hide (here_of HL.out he rfl)
            have he8 := HL.out.a8 e (List.mem_of_getElem? he)
            have HE := hide he
            clear he
            by_cases h2 : e.2.st = 2
            · rcases HBI.out with ⟨rfl, hb⟩ | ⟨j, f, rfl, hjk, hf, hb⟩
              · have HB := hide hb
                have H2 := hide h2
                clear hb HBI
                go_upto_region 12 with (fail)
                refine wp_region_noPanic ?_
                refine wp_region_U 25 (fun wz => Below w.heap.size w wz) (by kernel_rfl) ?_
                replace HP := hide HP.out.drew
                generalize wr.drew = wd at HP ⊢
                have HD := hide HP.out.low
                refine anyU_take2 (i := 0) (v := .slice (some ⟨q, off, none⟩) m c) (by simp only [List.getElem?_toArray, List.getElem?_cons_zero]; exact rfl) (by kernel_rfl) 12 (by kernel_rfl) (by kernel_rfl) (fun _ _ _ h => h) (by kernel_rfl) (by kernel_rfl) (by kernel_rfl) (by kernel_rfl) (Or.inl ⟨by rfl, fun w hSw => (by go_simp; try with_reducible rfl)⟩) (by with_reducible exact HD.out) ?_
                try simp only [Act.put, List.setIfInBounds_toArray, List.set_cons_zero, List.set_cons_succ]
                refine anyU_take2 (i := 1) (v := .int .i64 (k : Nat)) (by simp only [List.getElem?_toArray, List.getElem?_cons_succ, List.getElem?_cons_zero]; exact rfl) (by kernel_rfl) 12 (by kernel_rfl) (by kernel_rfl) (fun _ _ _ h => h) (by kernel_rfl) (by kernel_rfl) (by kernel_rfl) (by kernel_rfl) (Or.inl ⟨by rfl, fun w hSw => (by go_simp; try with_reducible rfl)⟩) (by with_reducible exact HD.out) ?_
                try simp only [Act.put, List.setIfInBounds_toArray, List.set_cons_zero, List.set_cons_succ]
                refine anyU_take2 (i := 2) (v := .pointer (some ⟨q, off + k * 22, none⟩)) (by simp only [List.getElem?_toArray, List.getElem?_cons_succ, List.getElem?_cons_zero]; exact rfl) (by kernel_rfl) 12 (by kernel_rfl) (by kernel_rfl) (fun _ _ _ h => h) (by kernel_rfl) (by kernel_rfl) (by kernel_rfl) (by kernel_rfl) (Or.inl ⟨by rfl, fun w hSw => (by go_simp; try with_reducible rfl)⟩) (by with_reducible exact HD.out) ?_
                try simp only [Act.put, List.setIfInBounds_toArray, List.set_cons_zero, List.set_cons_succ]
                refine anyU_take2 (i := 3) (v := .pointer (some ⟨q, off + k * 22 + 1, none⟩)) (by simp only [List.getElem?_toArray, List.getElem?_cons_succ, List.getElem?_cons_zero]; exact rfl) (by kernel_rfl) 12 (by kernel_rfl) (by kernel_rfl) (fun _ _ _ h => h) (by kernel_rfl) (by kernel_rfl) (by kernel_rfl) (by kernel_rfl) (Or.inl ⟨by rfl, fun w hSw => (by go_simp; try with_reducible rfl)⟩) (by with_reducible exact HD.out) ?_
                try simp only [Act.put, List.setIfInBounds_toArray, List.set_cons_zero, List.set_cons_succ]
                refine anyU_take2 (i := 4) (v := .pointer (some ⟨q, off + k * 22 + 1, none⟩)) (by simp only [List.getElem?_toArray, List.getElem?_cons_succ, List.getElem?_cons_zero]; exact rfl) (by kernel_rfl) 12 (by kernel_rfl) (by kernel_rfl) (fun _ _ _ h => h) (by kernel_rfl) (by kernel_rfl) (by kernel_rfl) (by kernel_rfl) (Or.inl ⟨by rfl, fun w hSw => (by go_simp; try with_reducible rfl)⟩) (by with_reducible exact HD.out) ?_
                try simp only [Act.put, List.setIfInBounds_toArray, List.set_cons_zero, List.set_cons_succ]
                refine anyU_take2 (i := 5) (v := .int .i64 2) (by simp only [List.getElem?_toArray, List.getElem?_cons_succ, List.getElem?_cons_zero]; exact rfl) (by kernel_rfl) 12 (by kernel_rfl) (by kernel_rfl) (fun _ _ _ h => h) (by kernel_rfl) (by kernel_rfl) (by kernel_rfl) (by kernel_rfl) (Or.inl ⟨by rfl, fun w hSw => (by have x0 := (HX.out _ hSw).st; rw [h2] at x0; go_simp; try with_reducible rfl)⟩) (by with_reducible exact HD.out) ?_
                try simp only [Act.put, List.setIfInBounds_toArray, List.set_cons_zero, List.set_cons_succ]
                refine anyU_take2 (i := 6) (v := .bool true) (by simp only [List.getElem?_toArray, List.getElem?_cons_succ, List.getElem?_cons_zero]; exact rfl) (by kernel_rfl) 12 (by kernel_rfl) (by kernel_rfl) (fun _ _ _ h => h) (by kernel_rfl) (by kernel_rfl) (by kernel_rfl) (by kernel_rfl) (Or.inl ⟨by rfl, fun w hSw => (by go_simp; try with_reducible rfl)⟩) (by with_reducible exact HD.out) ?_
                try simp only [Act.put, List.setIfInBounds_toArray, List.set_cons_zero, List.set_cons_succ]
                refine anyU_take2 (i := 7) (v := .bool true) (by simp only [List.getElem?_toArray, List.getElem?_cons_succ, List.getElem?_cons_zero]; exact rfl) (by kernel_rfl) 12 (by kernel_rfl) (by kernel_rfl) (fun _ _ _ h => h) (by kernel_rfl) (by kernel_rfl) (by kernel_rfl) (by kernel_rfl) (Or.inl ⟨by rfl, fun w hSw => (by go_simp; try with_reducible rfl)⟩) (by with_reducible exact HD.out) ?_
                try simp only [Act.put, List.setIfInBounds_toArray, List.set_cons_zero, List.set_cons_succ]
                refine anyU_take2 (i := 8) (v := .int .i64 (-1)) (by simp only [List.getElem?_toArray, List.getElem?_cons_succ, List.getElem?_cons_zero]; exact rfl) (by kernel_rfl) 12 (by kernel_rfl) (by kernel_rfl) (fun _ _ _ h => h) (by kernel_rfl) (by kernel_rfl) (by kernel_rfl) (by kernel_rfl) (Or.inl ⟨by rfl, fun w hSw => (by go_simp; try with_reducible rfl)⟩) (by with_reducible exact HD.out) ?_
                try simp only [Act.put, List.setIfInBounds_toArray, List.set_cons_zero, List.set_cons_succ]
                refine anyU_take2 (i := 9) (v := .bool true) (by simp only [List.getElem?_toArray, List.getElem?_cons_succ, List.getElem?_cons_zero]; exact rfl) (by kernel_rfl) 12 (by kernel_rfl) (by kernel_rfl) (fun _ _ _ h => h) (by kernel_rfl) (by kernel_rfl) (by kernel_rfl) (by kernel_rfl) (Or.inl ⟨by rfl, fun w hSw => (by go_simp; try with_reducible rfl)⟩) (by with_reducible exact HD.out) ?_
                try simp only [Act.put, List.setIfInBounds_toArray, List.set_cons_zero, List.set_cons_succ]
                refine anyU_take2 (i := 10) (v := .bool true) (by simp only [List.getElem?_toArray, List.getElem?_cons_succ, List.getElem?_cons_zero]; exact rfl) (by kernel_rfl) 12 (by kernel_rfl) (by kernel_rfl) (fun _ _ _ h => h) (by kernel_rfl) (by kernel_rfl) (by kernel_rfl) (by kernel_rfl) (Or.inl ⟨by rfl, fun w hSw => (by go_simp; try with_reducible rfl)⟩) (by with_reducible exact HD.out) ?_
                try simp only [Act.put, List.setIfInBounds_toArray, List.set_cons_zero, List.set_cons_succ]
                refine anyU_take2 (i := 11) (v := undef) (by simp only [List.getElem?_toArray, List.getElem?_cons_succ, List.getElem?_cons_zero]; exact rfl) (by kernel_rfl) 12 (by kernel_rfl) (by kernel_rfl) (fun _ _ _ h => h) (by kernel_rfl) (by kernel_rfl) (by kernel_rfl) (by kernel_rfl) (Or.inr ⟨by rfl, by rfl⟩) (by with_reducible exact HD.out) ?_
                try simp only [Act.put, List.setIfInBounds_toArray, List.set_cons_zero, List.set_cons_succ]
                refine anyU_take2 (i := 12) (v := undef) (by simp only [List.getElem?_toArray, List.getElem?_cons_succ, List.getElem?_cons_zero]; exact rfl) (by kernel_rfl) 12 (by kernel_rfl) (by kernel_rfl) (fun _ _ _ h => h) (by kernel_rfl) (by kernel_rfl) (by kernel_rfl) (by kernel_rfl) (Or.inr ⟨by rfl, by rfl⟩) (by with_reducible exact HD.out) ?_
                try simp only [Act.put, List.setIfInBounds_toArray, List.set_cons_zero, List.set_cons_succ]
                refine anyU_take2 (i := 13) (v := undef) (by simp only [List.getElem?_toArray, List.getElem?_cons_succ, List.getElem?_cons_zero]; exact rfl) (by kernel_rfl) 12 (by kernel_rfl) (by kernel_rfl) (fun _ _ _ h => h) (by kernel_rfl) (by kernel_rfl) (by kernel_rfl) (by kernel_rfl) (Or.inr ⟨by rfl, by rfl⟩) (by with_reducible exact HD.out) ?_
                try simp only [Act.put, List.setIfInBounds_toArray, List.set_cons_zero, List.set_cons_succ]
                refine anyU_take2 (i := 14) (v := undef) (by simp only [List.getElem?_toArray, List.getElem?_cons_succ, List.getElem?_cons_zero]; exact rfl) (by kernel_rfl) 12 (by kernel_rfl) (by kernel_rfl) (fun _ _ _ h => h) (by kernel_rfl) (by kernel_rfl) (by kernel_rfl) (by kernel_rfl) (Or.inr ⟨by rfl, by rfl⟩) (by with_reducible exact HD.out) ?_
                try simp only [Act.put, List.setIfInBounds_toArray, List.set_cons_zero, List.set_cons_succ]
                refine anyU_take2 (i := 15) (v := undef) (by simp only [List.getElem?_toArray, List.getElem?_cons_succ, List.getElem?_cons_zero]; exact rfl) (by kernel_rfl) 12 (by kernel_rfl) (by kernel_rfl) (fun _ _ _ h => h) (by kernel_rfl) (by kernel_rfl) (by kernel_rfl) (by kernel_rfl) (Or.inr ⟨by rfl, by rfl⟩) (by with_reducible exact HD.out) ?_
                try simp only [Act.put, List.setIfInBounds_toArray, List.set_cons_zero, List.set_cons_succ]
                refine anyU_take2 (i := 16) (v := undef) (by simp only [List.getElem?_toArray, List.getElem?_cons_succ, List.getElem?_cons_zero]; exact rfl) (by kernel_rfl) 12 (by kernel_rfl) (by kernel_rfl) (fun _ _ _ h => h) (by kernel_rfl) (by kernel_rfl) (by kernel_rfl) (by kernel_rfl) (Or.inr ⟨by rfl, by rfl⟩) (by with_reducible exact HD.out) ?_
                try simp only [Act.put, List.setIfInBounds_toArray, List.set_cons_zero, List.set_cons_succ]
                refine anyU_take2 (i := 17) (v := undef) (by simp only [List.getElem?_toArray, List.getElem?_cons_succ, List.getElem?_cons_zero]; exact rfl) (by kernel_rfl) 12 (by kernel_rfl) (by kernel_rfl) (fun _ _ _ h => h) (by kernel_rfl) (by kernel_rfl) (by kernel_rfl) (by kernel_rfl) (Or.inr ⟨by rfl, by rfl⟩) (by with_reducible exact HD.out) ?_
                try simp only [Act.put, List.setIfInBounds_toArray, List.set_cons_zero, List.set_cons_succ]
                refine anyU_take2 (i := 18) (v := undef) (by simp only [List.getElem?_toArray, List.getElem?_cons_succ, List.getElem?_cons_zero]; exact rfl) (by kernel_rfl) 12 (by kernel_rfl) (by kernel_rfl) (fun _ _ _ h => h) (by kernel_rfl) (by kernel_rfl) (by kernel_rfl) (by kernel_rfl) (Or.inr ⟨by rfl, by rfl⟩) (by with_reducible exact HD.out) ?_
                try simp only [Act.put, List.setIfInBounds_toArray, List.set_cons_zero, List.set_cons_succ]
                refine anyU_take2 (i := 19) (v := undef) (by simp only [List.getElem?_toArray, List.getElem?_cons_succ, List.getElem?_cons_zero]; exact rfl) (by kernel_rfl) 12 (by kernel_rfl) (by kernel_rfl) (fun _ _ _ h => h) (by kernel_rfl) (by kernel_rfl) (by kernel_rfl) (by kernel_rfl) (Or.inr ⟨by rfl, by rfl⟩) (by with_reducible exact HD.out) ?_
                try simp only [Act.put, List.setIfInBounds_toArray, List.set_cons_zero, List.set_cons_succ]
                refine anyU_take2 (i := 20) (v := undef) (by simp only [List.getElem?_toArray, List.getElem?_cons_succ, List.getElem?_cons_zero]; exact rfl) (by kernel_rfl) 12 (by kernel_rfl) (by kernel_rfl) (fun _ _ _ h => h) (by kernel_rfl) (by kernel_rfl) (by kernel_rfl) (by kernel_rfl) (Or.inr ⟨by rfl, by rfl⟩) (by with_reducible exact HD.out) ?_
                try simp only [Act.put, List.setIfInBounds_toArray, List.set_cons_zero, List.set_cons_succ]
                refine anyU_take2 (i := 21) (v := undef) (by simp only [List.getElem?_toArray, List.getElem?_cons_succ, List.getElem?_cons_zero]; exact rfl) (by kernel_rfl) 12 (by kernel_rfl) (by kernel_rfl) (fun _ _ _ h => h) (by kernel_rfl) (by kernel_rfl) (by kernel_rfl) (by kernel_rfl) (Or.inr ⟨by rfl, by rfl⟩) (by with_reducible exact HD.out) ?_
                try simp only [Act.put, List.setIfInBounds_toArray, List.set_cons_zero, List.set_cons_succ]
                refine anyU_take2 (i := 22) (v := undef) (by simp only [List.getElem?_toArray, List.getElem?_cons_succ, List.getElem?_cons_zero]; exact rfl) (by kernel_rfl) 12 (by kernel_rfl) (by kernel_rfl) (fun _ _ _ h => h) (by kernel_rfl) (by kernel_rfl) (by kernel_rfl) (by kernel_rfl) (Or.inr ⟨by rfl, by rfl⟩) (by with_reducible exact HD.out) ?_
                try simp only [Act.put, List.setIfInBounds_toArray, List.set_cons_zero, List.set_cons_succ]
                refine anyU_take2 (i := 23) (v := undef) (by simp only [List.getElem?_toArray, List.getElem?_cons_succ, List.getElem?_cons_zero]; exact rfl) (by kernel_rfl) 12 (by kernel_rfl) (by kernel_rfl) (fun _ _ _ h => h) (by kernel_rfl) (by kernel_rfl) (by kernel_rfl) (by kernel_rfl) (Or.inr ⟨by rfl, by rfl⟩) (by with_reducible exact HD.out) ?_
                try simp only [Act.put, List.setIfInBounds_toArray, List.set_cons_zero, List.set_cons_succ]
                refine anyU_take2 (i := 24) (v := .bool true) (by simp only [List.getElem?_toArray, List.getElem?_cons_succ, List.getElem?_cons_zero]; exact rfl) (by kernel_rfl) 12 (by kernel_rfl) (by kernel_rfl) (fun _ _ _ h => h) (by kernel_rfl) (by kernel_rfl) (by kernel_rfl) (by kernel_rfl) (Or.inl ⟨by rfl, fun w hSw => (by go_simp; try with_reducible rfl)⟩) (by with_reducible exact HD.out) ?_
                try simp only [Act.put, List.setIfInBounds_toArray, List.set_cons_zero, List.set_cons_succ]
                refine anyU_one (i := 25) (by kernel_rfl) (by simp only [List.getElem?_toArray, List.getElem?_cons_succ, List.getElem?_cons_zero]; exact rfl) (fun K hK => ?_)
                try go_simp
                refine hK.out _ _ (fun e _ => absurd rfl e) ?_
                clear hK K
                try simp only [Act.put]
                refine anyU_done (by kernel_rfl) ?_
                refine NoPanic.normal ?_
                try simp only [Act.put]
                clear h2
                go_wp2
                go_roundw
                case rel => exact ⟨k + 1, k, by omega, rfl, by go_num, hide (.inr ⟨k, e, rfl, by omega, HE.out, by rw [best_take 2 HE.out, HB.out]; exact if_pos H2.out⟩), HP⟩
                case measure => simp [intOf]; omega
              · have HY := hide (here_of HL.out hf rfl)
                have HF := hide hf
                have HB := hide hb
                have H2 := hide h2
                have hjm : (j : Int) < (m : Int) := by omega
                have hj0 : ¬ (j : Int) < 0 := by omega
                have HJ := hide hjk
                have HBL := hide (fun w => refbelow_any f.2.v.1 f.2.v.2 e.2.v.1 e.2.v.2 w)
                rw [show ((f.2.v.1, f.2.v.2) : Int × Int) = f.2.v from rfl, show ((e.2.v.1, e.2.v.2) : Int × Int) = e.2.v from rfl] at HBL
                clear hb hf hjk HBI
                cases hlt3 : ltP f.2.v e.2.v
                · have HLT := hide hlt3
                  rw [hlt3] at HBL
                  clear hlt3
                  go_upto_region 12 with (fail)
                  refine wp_region_noPanic ?_
                  refine wp_region_U 25 (fun wz => Below w.heap.size w wz) (by kernel_rfl) ?_
                  replace HP := hide HP.out.drew
                  generalize wr.drew = wd at HP ⊢
                  have HD := hide HP.out.low
                  refine anyU_take2 (i := 0) (v := .slice (some ⟨q, off, none⟩) m c) (by simp only [List.getElem?_toArray, List.getElem?_cons_zero]; exact rfl) (by kernel_rfl) 12 (by kernel_rfl) (by kernel_rfl) (fun _ _ _ h => h) (by kernel_rfl) (by kernel_rfl) (by kernel_rfl) (by kernel_rfl) (Or.inl ⟨by rfl, fun w hSw => (by go_simp; try with_reducible rfl)⟩) (by with_reducible exact HD.out) ?_
                  try simp only [Act.put, List.setIfInBounds_toArray, List.set_cons_zero, List.set_cons_succ]
                  refine anyU_take2 (i := 1) (v := .int .i64 (k : Nat)) (by simp only [List.getElem?_toArray, List.getElem?_cons_succ, List.getElem?_cons_zero]; exact rfl) (by kernel_rfl) 12 (by kernel_rfl) (by kernel_rfl) (fun _ _ _ h => h) (by kernel_rfl) (by kernel_rfl) (by kernel_rfl) (by kernel_rfl) (Or.inl ⟨by rfl, fun w hSw => (by go_simp; try with_reducible rfl)⟩) (by with_reducible exact HD.out) ?_
                  try simp only [Act.put, List.setIfInBounds_toArray, List.set_cons_zero, List.set_cons_succ]
                  refine anyU_take2 (i := 2) (v := .pointer (some ⟨q, off + k * 22, none⟩)) (by simp only [List.getElem?_toArray, List.getElem?_cons_succ, List.getElem?_cons_zero]; exact rfl) (by kernel_rfl) 12 (by kernel_rfl) (by kernel_rfl) (fun _ _ _ h => h) (by kernel_rfl) (by kernel_rfl) (by kernel_rfl) (by kernel_rfl) (Or.inl ⟨by rfl, fun w hSw => (by go_simp; try with_reducible rfl)⟩) (by with_reducible exact HD.out) ?_
                  try simp only [Act.put, List.setIfInBounds_toArray, List.set_cons_zero, List.set_cons_succ]
                  refine anyU_take2 (i := 3) (v := .pointer (some ⟨q, off + k * 22 + 1, none⟩)) (by simp only [List.getElem?_toArray, List.getElem?_cons_succ, List.getElem?_cons_zero]; exact rfl) (by kernel_rfl) 12 (by kernel_rfl) (by kernel_rfl) (fun _ _ _ h => h) (by kernel_rfl) (by kernel_rfl) (by kernel_rfl) (by kernel_rfl) (Or.inl ⟨by rfl, fun w hSw => (by go_simp; try with_reducible rfl)⟩) (by with_reducible exact HD.out) ?_
                  try simp only [Act.put, List.setIfInBounds_toArray, List.set_cons_zero, List.set_cons_succ]
                  refine anyU_take2 (i := 4) (v := .pointer (some ⟨q, off + k * 22 + 1, none⟩)) (by simp only [List.getElem?_toArray, List.getElem?_cons_succ, List.getElem?_cons_zero]; exact rfl) (by kernel_rfl) 12 (by kernel_rfl) (by kernel_rfl) (fun _ _ _ h => h) (by kernel_rfl) (by kernel_rfl) (by kernel_rfl) (by kernel_rfl) (Or.inl ⟨by rfl, fun w hSw => (by go_simp; try with_reducible rfl)⟩) (by with_reducible exact HD.out) ?_
                  try simp only [Act.put, List.setIfInBounds_toArray, List.set_cons_zero, List.set_cons_succ]
                  refine anyU_take2 (i := 5) (v := .int .i64 2) (by simp only [List.getElem?_toArray, List.getElem?_cons_succ, List.getElem?_cons_zero]; exact rfl) (by kernel_rfl) 12 (by kernel_rfl) (by kernel_rfl) (fun _ _ _ h => h) (by kernel_rfl) (by kernel_rfl) (by kernel_rfl) (by kernel_rfl) (Or.inl ⟨by rfl, fun w hSw => (by have x0 := (HX.out _ hSw).st; rw [h2] at x0; go_simp; try with_reducible rfl)⟩) (by with_reducible exact HD.out) ?_
                  try simp only [Act.put, List.setIfInBounds_toArray, List.set_cons_zero, List.set_cons_succ]
                  refine anyU_take2 (i := 6) (v := .bool true) (by simp only [List.getElem?_toArray, List.getElem?_cons_succ, List.getElem?_cons_zero]; exact rfl) (by kernel_rfl) 12 (by kernel_rfl) (by kernel_rfl) (fun _ _ _ h => h) (by kernel_rfl) (by kernel_rfl) (by kernel_rfl) (by kernel_rfl) (Or.inl ⟨by rfl, fun w hSw => (by go_simp; try with_reducible rfl)⟩) (by with_reducible exact HD.out) ?_
                  try simp only [Act.put, List.setIfInBounds_toArray, List.set_cons_zero, List.set_cons_succ]
                  refine anyU_take2 (i := 7) (v := .bool true) (by simp only [List.getElem?_toArray, List.getElem?_cons_succ, List.getElem?_cons_zero]; exact rfl) (by kernel_rfl) 12 (by kernel_rfl) (by kernel_rfl) (fun _ _ _ h => h) (by kernel_rfl) (by kernel_rfl) (by kernel_rfl) (by kernel_rfl) (Or.inl ⟨by rfl, fun w hSw => (by go_simp; try with_reducible rfl)⟩) (by with_reducible exact HD.out) ?_
                  try simp only [Act.put, List.setIfInBounds_toArray, List.set_cons_zero, List.set_cons_succ]
                  refine anyU_take2 (i := 8) (v := .int .i64 (j : Nat)) (by simp only [List.getElem?_toArray, List.getElem?_cons_succ, List.getElem?_cons_zero]; exact rfl) (by kernel_rfl) 12 (by kernel_rfl) (by kernel_rfl) (fun _ _ _ h => h) (by kernel_rfl) (by kernel_rfl) (by kernel_rfl) (by kernel_rfl) (Or.inl ⟨by rfl, fun w hSw => (by go_simp; try with_reducible rfl)⟩) (by with_reducible exact HD.out) ?_
                  try simp only [Act.put, List.setIfInBounds_toArray, List.set_cons_zero, List.set_cons_succ]
                  refine anyU_take2 (i := 9) (v := .bool false) (by simp only [List.getElem?_toArray, List.getElem?_cons_succ, List.getElem?_cons_zero]; exact rfl) (by kernel_rfl) 12 (by kernel_rfl) (by kernel_rfl) (fun _ _ _ h => h) (by kernel_rfl) (by kernel_rfl) (by kernel_rfl) (by kernel_rfl) (Or.inl ⟨by rfl, fun w hSw => (by go_simp; try with_reducible rfl)⟩) (by with_reducible exact HD.out) ?_
                  try simp only [Act.put, List.setIfInBounds_toArray, List.set_cons_zero, List.set_cons_succ]
                  refine anyU_take2 (i := 10) (v := .bool false) (by simp only [List.getElem?_toArray, List.getElem?_cons_succ, List.getElem?_cons_zero]; exact rfl) (by kernel_rfl) 12 (by kernel_rfl) (by kernel_rfl) (fun _ _ _ h => h) (by kernel_rfl) (by kernel_rfl) (by kernel_rfl) (by kernel_rfl) (Or.inl ⟨by rfl, fun w hSw => (by go_simp; try with_reducible rfl)⟩) (by with_reducible exact HD.out) ?_
                  try simp only [Act.put, List.setIfInBounds_toArray, List.set_cons_zero, List.set_cons_succ]
                  refine anyU_take2 (i := 11) (v := .slice (some ⟨q, off, none⟩) m c) (by simp only [List.getElem?_toArray, List.getElem?_cons_succ, List.getElem?_cons_zero]; exact rfl) (by kernel_rfl) 12 (by kernel_rfl) (by kernel_rfl) (fun _ _ _ h => h) (by kernel_rfl) (by kernel_rfl) (by kernel_rfl) (by kernel_rfl) (Or.inl ⟨by rfl, fun w hSw => (by go_simp; try with_reducible rfl)⟩) (by with_reducible exact HD.out) ?_
                  try simp only [Act.put, List.setIfInBounds_toArray, List.set_cons_zero, List.set_cons_succ]
                  refine anyU_take2 (i := 12) (v := .int .i64 (j : Nat)) (by simp only [List.getElem?_toArray, List.getElem?_cons_succ, List.getElem?_cons_zero]; exact rfl) (by kernel_rfl) 12 (by kernel_rfl) (by kernel_rfl) (fun _ _ _ h => h) (by kernel_rfl) (by kernel_rfl) (by kernel_rfl) (by kernel_rfl) (Or.inl ⟨by rfl, fun w hSw => (by go_simp; try with_reducible rfl)⟩) (by with_reducible exact HD.out) ?_
                  try simp only [Act.put, List.setIfInBounds_toArray, List.set_cons_zero, List.set_cons_succ]
                  refine anyU_take2 (i := 13) (v := .pointer (some ⟨q, off + j * 22, none⟩)) (by simp only [List.getElem?_toArray, List.getElem?_cons_succ, List.getElem?_cons_zero]; exact rfl) (by kernel_rfl) 12 (by kernel_rfl) (by kernel_rfl) (fun _ _ _ h => h) (by kernel_rfl) (by kernel_rfl) (by kernel_rfl) (by kernel_rfl) (Or.inl ⟨by rfl, fun w hSw => (by go_simp; try with_reducible rfl)⟩) (by with_reducible exact HD.out) ?_
                  try simp only [Act.put, List.setIfInBounds_toArray, List.set_cons_zero, List.set_cons_succ]
                  refine anyU_take2 (i := 14) (v := .pointer (some ⟨q, off + j * 22 + 1, none⟩)) (by simp only [List.getElem?_toArray, List.getElem?_cons_succ, List.getElem?_cons_zero]; exact rfl) (by kernel_rfl) 12 (by kernel_rfl) (by kernel_rfl) (fun _ _ _ h => h) (by kernel_rfl) (by kernel_rfl) (by kernel_rfl) (by kernel_rfl) (Or.inl ⟨by rfl, fun w hSw => (by go_simp; try with_reducible rfl)⟩) (by with_reducible exact HD.out) ?_
                  try simp only [Act.put, List.setIfInBounds_toArray, List.set_cons_zero, List.set_cons_succ]
                  refine anyU_take2 (i := 15) (v := .pointer (some ⟨q, off + j * 22 + 1 + 3, none⟩)) (by simp only [List.getElem?_toArray, List.getElem?_cons_succ, List.getElem?_cons_zero]; exact rfl) (by kernel_rfl) 12 (by kernel_rfl) (by kernel_rfl) (fun _ _ _ h => h) (by kernel_rfl) (by kernel_rfl) (by kernel_rfl) (by kernel_rfl) (Or.inl ⟨by rfl, fun w hSw => (by go_simp; try with_reducible rfl)⟩) (by with_reducible exact HD.out) ?_
                  try simp only [Act.put, List.setIfInBounds_toArray, List.set_cons_zero, List.set_cons_succ]
                  refine anyU_take2 (i := 16) (v := .agg #[.int .i64 f.2.v.1, .int .i64 f.2.v.2]) (by simp only [List.getElem?_toArray, List.getElem?_cons_succ, List.getElem?_cons_zero]; exact rfl) (by kernel_rfl) 12 (by kernel_rfl) (by kernel_rfl) (fun _ _ _ h => h) (by kernel_rfl) (by kernel_rfl) (by kernel_rfl) (by kernel_rfl) (Or.inl ⟨by rfl, fun w hSw => exec_load_gp (cs := [.int .i64 f.2.v.1, .int .i64 f.2.v.2]) rfl rfl (HY.out _ hSw).v bal_under rfl bal_info⟩) (by with_reducible exact HD.out) ?_
                  try simp only [Act.put, List.setIfInBounds_toArray, List.set_cons_zero, List.set_cons_succ]
                  refine anyU_take2 (i := 17) (v := .slice (some ⟨q, off, none⟩) m c) (by simp only [List.getElem?_toArray, List.getElem?_cons_succ, List.getElem?_cons_zero]; exact rfl) (by kernel_rfl) 12 (by kernel_rfl) (by kernel_rfl) (fun _ _ _ h => h) (by kernel_rfl) (by kernel_rfl) (by kernel_rfl) (by kernel_rfl) (Or.inl ⟨by rfl, fun w hSw => (by go_simp; try with_reducible rfl)⟩) (by with_reducible exact HD.out) ?_
                  try simp only [Act.put, List.setIfInBounds_toArray, List.set_cons_zero, List.set_cons_succ]
                  refine anyU_take2 (i := 18) (v := .int .i64 (k : Nat)) (by simp only [List.getElem?_toArray, List.getElem?_cons_succ, List.getElem?_cons_zero]; exact rfl) (by kernel_rfl) 12 (by kernel_rfl) (by kernel_rfl) (fun _ _ _ h => h) (by kernel_rfl) (by kernel_rfl) (by kernel_rfl) (by kernel_rfl) (Or.inl ⟨by rfl, fun w hSw => (by go_simp; try with_reducible rfl)⟩) (by with_reducible exact HD.out) ?_
                  try simp only [Act.put, List.setIfInBounds_toArray, List.set_cons_zero, List.set_cons_succ]
                  refine anyU_take2 (i := 19) (v := .pointer (some ⟨q, off + k * 22, none⟩)) (by simp only [List.getElem?_toArray, List.getElem?_cons_succ, List.getElem?_cons_zero]; exact rfl) (by kernel_rfl) 12 (by kernel_rfl) (by kernel_rfl) (fun _ _ _ h => h) (by kernel_rfl) (by kernel_rfl) (by kernel_rfl) (by kernel_rfl) (Or.inl ⟨by rfl, fun w hSw => (by go_simp; try with_reducible rfl)⟩) (by with_reducible exact HD.out) ?_
                  try simp only [Act.put, List.setIfInBounds_toArray, List.set_cons_zero, List.set_cons_succ]
                  refine anyU_take2 (i := 20) (v := .pointer (some ⟨q, off + k * 22 + 1, none⟩)) (by simp only [List.getElem?_toArray, List.getElem?_cons_succ, List.getElem?_cons_zero]; exact rfl) (by kernel_rfl) 12 (by kernel_rfl) (by kernel_rfl) (fun _ _ _ h => h) (by kernel_rfl) (by kernel_rfl) (by kernel_rfl) (by kernel_rfl) (Or.inl ⟨by rfl, fun w hSw => (by go_simp; try with_reducible rfl)⟩) (by with_reducible exact HD.out) ?_
                  try simp only [Act.put, List.setIfInBounds_toArray, List.set_cons_zero, List.set_cons_succ]
                  refine anyU_take2 (i := 21) (v := .pointer (some ⟨q, off + k * 22 + 1 + 3, none⟩)) (by simp only [List.getElem?_toArray, List.getElem?_cons_succ, List.getElem?_cons_zero]; exact rfl) (by kernel_rfl) 12 (by kernel_rfl) (by kernel_rfl) (fun _ _ _ h => h) (by kernel_rfl) (by kernel_rfl) (by kernel_rfl) (by kernel_rfl) (Or.inl ⟨by rfl, fun w hSw => (by go_simp; try with_reducible rfl)⟩) (by with_reducible exact HD.out) ?_
                  try simp only [Act.put, List.setIfInBounds_toArray, List.set_cons_zero, List.set_cons_succ]
                  refine anyU_take2 (i := 22) (v := .agg #[.int .i64 e.2.v.1, .int .i64 e.2.v.2]) (by simp only [List.getElem?_toArray, List.getElem?_cons_succ, List.getElem?_cons_zero]; exact rfl) (by kernel_rfl) 12 (by kernel_rfl) (by kernel_rfl) (fun _ _ _ h => h) (by kernel_rfl) (by kernel_rfl) (by kernel_rfl) (by kernel_rfl) (Or.inl ⟨by rfl, fun w hSw => exec_load_gp (cs := [.int .i64 e.2.v.1, .int .i64 e.2.v.2]) rfl rfl (HX.out _ hSw).v bal_under rfl bal_info⟩) (by with_reducible exact HD.out) ?_
                  try simp only [Act.put, List.setIfInBounds_toArray, List.set_cons_zero, List.set_cons_succ]
                  refine anyU_one (i := 23) (by kernel_rfl) (by simp only [List.getElem?_toArray, List.getElem?_cons_succ, List.getElem?_cons_zero]; exact rfl) (fun K hK => ?_)
                  try go_simp
                  refine (HBL.out _).mono ?_
                  rintro e5 w5 ⟨rfl, hb5⟩
                  replace HP := hide (HP.out.kept hb5)
                  replace HD := hide HP.out.low
                  clear hb5
                  refine hK.out _ _ (fun _ _ => HD.out) ?_
                  clear hK K
                  try simp only [Act.put, List.setIfInBounds_toArray, List.set_cons_zero, List.set_cons_succ]
                  refine anyU_take2 (i := 24) (v := .bool false) (by simp only [List.getElem?_toArray, List.getElem?_cons_succ, List.getElem?_cons_zero]; exact rfl) (by kernel_rfl) 12 (by kernel_rfl) (by kernel_rfl) (fun _ _ _ h => h) (by kernel_rfl) (by kernel_rfl) (by kernel_rfl) (by kernel_rfl) (Or.inl ⟨by rfl, fun w hSw => (by go_simp; try with_reducible rfl)⟩) (by with_reducible exact HD.out) ?_
                  try simp only [Act.put, List.setIfInBounds_toArray, List.set_cons_zero, List.set_cons_succ]
                  refine anyU_one (i := 25) (by kernel_rfl) (by simp only [List.getElem?_toArray, List.getElem?_cons_succ, List.getElem?_cons_zero]; exact rfl) (fun K hK => ?_)
                  try go_simp
                  refine hK.out _ _ (fun e _ => absurd rfl e) ?_
                  clear hK K
                  try simp only [Act.put]
                  refine anyU_done (by kernel_rfl) ?_
                  refine NoPanic.normal ?_
                  try simp only [Act.put]
                  clear h2
                  go_wp2
                  go_roundw
                  case rel => exact ⟨k + 1, j, by omega, rfl, by go_num, hide (.inr ⟨j, f, rfl, by have := HJ.out; omega, HF.out, by rw [best_take 2 HE.out, HB.out]; unfold bestF; rw [if_pos H2.out]; simp only; rw [HLT.out]; rfl⟩), HP⟩
                  case measure => simp [intOf]; omega
                · have HLT := hide hlt3
                  rw [hlt3] at HBL
                  clear hlt3
                  go_upto_region 12 with (fail)
                  refine wp_region_noPanic ?_
                  refine wp_region_U 25 (fun wz => Below w.heap.size w wz) (by kernel_rfl) ?_
                  replace HP := hide HP.out.drew
                  generalize wr.drew = wd at HP ⊢
                  have HD := hide HP.out.low
                  refine anyU_take2 (i := 0) (v := .slice (some ⟨q, off, none⟩) m c) (by simp only [List.getElem?_toArray, List.getElem?_cons_zero]; exact rfl) (by kernel_rfl) 12 (by kernel_rfl) (by kernel_rfl) (fun _ _ _ h => h) (by kernel_rfl) (by kernel_rfl) (by kernel_rfl) (by kernel_rfl) (Or.inl ⟨by rfl, fun w hSw => (by go_simp; try with_reducible rfl)⟩) (by with_reducible exact HD.out) ?_
                  try simp only [Act.put, List.setIfInBounds_toArray, List.set_cons_zero, List.set_cons_succ]
                  refine anyU_take2 (i := 1) (v := .int .i64 (k : Nat)) (by simp only [List.getElem?_toArray, List.getElem?_cons_succ, List.getElem?_cons_zero]; exact rfl) (by kernel_rfl) 12 (by kernel_rfl) (by kernel_rfl) (fun _ _ _ h => h) (by kernel_rfl) (by kernel_rfl) (by kernel_rfl) (by kernel_rfl) (Or.inl ⟨by rfl, fun w hSw => (by go_simp; try with_reducible rfl)⟩) (by with_reducible exact HD.out) ?_
                  try simp only [Act.put, List.setIfInBounds_toArray, List.set_cons_zero, List.set_cons_succ]
                  refine anyU_take2 (i := 2) (v := .pointer (some ⟨q, off + k * 22, none⟩)) (by simp only [List.getElem?_toArray, List.getElem?_cons_succ, List.getElem?_cons_zero]; exact rfl) (by kernel_rfl) 12 (by kernel_rfl) (by kernel_rfl) (fun _ _ _ h => h) (by kernel_rfl) (by kernel_rfl) (by kernel_rfl) (by kernel_rfl) (Or.inl ⟨by rfl, fun w hSw => (by go_simp; try with_reducible rfl)⟩) (by with_reducible exact HD.out) ?_
                  try simp only [Act.put, List.setIfInBounds_toArray, List.set_cons_zero, List.set_cons_succ]
                  refine anyU_take2 (i := 3) (v := .pointer (some ⟨q, off + k * 22 + 1, none⟩)) (by simp only [List.getElem?_toArray, List.getElem?_cons_succ, List.getElem?_cons_zero]; exact rfl) (by kernel_rfl) 12 (by kernel_rfl) (by kernel_rfl) (fun _ _ _ h => h) (by kernel_rfl) (by kernel_rfl) (by kernel_rfl) (by kernel_rfl) (Or.inl ⟨by rfl, fun w hSw => (by go_simp; try with_reducible rfl)⟩) (by with_reducible exact HD.out) ?_
                  try simp only [Act.put, List.setIfInBounds_toArray, List.set_cons_zero, List.set_cons_succ]
                  refine anyU_take2 (i := 4) (v := .pointer (some ⟨q, off + k * 22 + 1, none⟩)) (by simp only [List.getElem?_toArray, List.getElem?_cons_succ, List.getElem?_cons_zero]; exact rfl) (by kernel_rfl) 12 (by kernel_rfl) (by kernel_rfl) (fun _ _ _ h => h) (by kernel_rfl) (by kernel_rfl) (by kernel_rfl) (by kernel_rfl) (Or.inl ⟨by rfl, fun w hSw => (by go_simp; try with_reducible rfl)⟩) (by with_reducible exact HD.out) ?_
                  try simp only [Act.put, List.setIfInBounds_toArray, List.set_cons_zero, List.set_cons_succ]
                  refine anyU_take2 (i := 5) (v := .int .i64 2) (by simp only [List.getElem?_toArray, List.getElem?_cons_succ, List.getElem?_cons_zero]; exact rfl) (by kernel_rfl) 12 (by kernel_rfl) (by kernel_rfl) (fun _ _ _ h => h) (by kernel_rfl) (by kernel_rfl) (by kernel_rfl) (by kernel_rfl) (Or.inl ⟨by rfl, fun w hSw => (by have x0 := (HX.out _ hSw).st; rw [h2] at x0; go_simp; try with_reducible rfl)⟩) (by with_reducible exact HD.out) ?_
                  try simp only [Act.put, List.setIfInBounds_toArray, List.set_cons_zero, List.set_cons_succ]
                  refine anyU_take2 (i := 6) (v := .bool true) (by simp only [List.getElem?_toArray, List.getElem?_cons_succ, List.getElem?_cons_zero]; exact rfl) (by kernel_rfl) 12 (by kernel_rfl) (by kernel_rfl) (fun _ _ _ h => h) (by kernel_rfl) (by kernel_rfl) (by kernel_rfl) (by kernel_rfl) (Or.inl ⟨by rfl, fun w hSw => (by go_simp; try with_reducible rfl)⟩) (by with_reducible exact HD.out) ?_
                  try simp only [Act.put, List.setIfInBounds_toArray, List.set_cons_zero, List.set_cons_succ]
                  refine anyU_take2 (i := 7) (v := .bool true) (by simp only [List.getElem?_toArray, List.getElem?_cons_succ, List.getElem?_cons_zero]; exact rfl) (by kernel_rfl) 12 (by kernel_rfl) (by kernel_rfl) (fun _ _ _ h => h) (by kernel_rfl) (by kernel_rfl) (by kernel_rfl) (by kernel_rfl) (Or.inl ⟨by rfl, fun w hSw => (by go_simp; try with_reducible rfl)⟩) (by with_reducible exact HD.out) ?_
                  try simp only [Act.put, List.setIfInBounds_toArray, List.set_cons_zero, List.set_cons_succ]
                  refine anyU_take2 (i := 8) (v := .int .i64 (j : Nat)) (by simp only [List.getElem?_toArray, List.getElem?_cons_succ, List.getElem?_cons_zero]; exact rfl) (by kernel_rfl) 12 (by kernel_rfl) (by kernel_rfl) (fun _ _ _ h => h) (by kernel_rfl) (by kernel_rfl) (by kernel_rfl) (by kernel_rfl) (Or.inl ⟨by rfl, fun w hSw => (by go_simp; try with_reducible rfl)⟩) (by with_reducible exact HD.out) ?_
                  try simp only [Act.put, List.setIfInBounds_toArray, List.set_cons_zero, List.set_cons_succ]
                  refine anyU_take2 (i := 9) (v := .bool false) (by simp only [List.getElem?_toArray, List.getElem?_cons_succ, List.getElem?_cons_zero]; exact rfl) (by kernel_rfl) 12 (by kernel_rfl) (by kernel_rfl) (fun _ _ _ h => h) (by kernel_rfl) (by kernel_rfl) (by kernel_rfl) (by kernel_rfl) (Or.inl ⟨by rfl, fun w hSw => (by go_simp; try with_reducible rfl)⟩) (by with_reducible exact HD.out) ?_
                  try simp only [Act.put, List.setIfInBounds_toArray, List.set_cons_zero, List.set_cons_succ]
                  refine anyU_take2 (i := 10) (v := .bool false) (by simp only [List.getElem?_toArray, List.getElem?_cons_succ, List.getElem?_cons_zero]; exact rfl) (by kernel_rfl) 12 (by kernel_rfl) (by kernel_rfl) (fun _ _ _ h => h) (by kernel_rfl) (by kernel_rfl) (by kernel_rfl) (by kernel_rfl) (Or.inl ⟨by rfl, fun w hSw => (by go_simp; try with_reducible rfl)⟩) (by with_reducible exact HD.out) ?_
                  try simp only [Act.put, List.setIfInBounds_toArray, List.set_cons_zero, List.set_cons_succ]
                  refine anyU_take2 (i := 11) (v := .slice (some ⟨q, off, none⟩) m c) (by simp only [List.getElem?_toArray, List.getElem?_cons_succ, List.getElem?_cons_zero]; exact rfl) (by kernel_rfl) 12 (by kernel_rfl) (by kernel_rfl) (fun _ _ _ h => h) (by kernel_rfl) (by kernel_rfl) (by kernel_rfl) (by kernel_rfl) (Or.inl ⟨by rfl, fun w hSw => (by go_simp; try with_reducible rfl)⟩) (by with_reducible exact HD.out) ?_
                  try simp only [Act.put, List.setIfInBounds_toArray, List.set_cons_zero, List.set_cons_succ]
                  refine anyU_take2 (i := 12) (v := .int .i64 (j : Nat)) (by simp only [List.getElem?_toArray, List.getElem?_cons_succ, List.getElem?_cons_zero]; exact rfl) (by kernel_rfl) 12 (by kernel_rfl) (by kernel_rfl) (fun _ _ _ h => h) (by kernel_rfl) (by kernel_rfl) (by kernel_rfl) (by kernel_rfl) (Or.inl ⟨by rfl, fun w hSw => (by go_simp; try with_reducible rfl)⟩) (by with_reducible exact HD.out) ?_
                  try simp only [Act.put, List.setIfInBounds_toArray, List.set_cons_zero, List.set_cons_succ]
                  refine anyU_take2 (i := 13) (v := .pointer (some ⟨q, off + j * 22, none⟩)) (by simp only [List.getElem?_toArray, List.getElem?_cons_succ, List.getElem?_cons_zero]; exact rfl) (by kernel_rfl) 12 (by kernel_rfl) (by kernel_rfl) (fun _ _ _ h => h) (by kernel_rfl) (by kernel_rfl) (by kernel_rfl) (by kernel_rfl) (Or.inl ⟨by rfl, fun w hSw => (by go_simp; try with_reducible rfl)⟩) (by with_reducible exact HD.out) ?_
                  try simp only [Act.put, List.setIfInBounds_toArray, List.set_cons_zero, List.set_cons_succ]
                  refine anyU_take2 (i := 14) (v := .pointer (some ⟨q, off + j * 22 + 1, none⟩)) (by simp only [List.getElem?_toArray, List.getElem?_cons_succ, List.getElem?_cons_zero]; exact rfl) (by kernel_rfl) 12 (by kernel_rfl) (by kernel_rfl) (fun _ _ _ h => h) (by kernel_rfl) (by kernel_rfl) (by kernel_rfl) (by kernel_rfl) (Or.inl ⟨by rfl, fun w hSw => (by go_simp; try with_reducible rfl)⟩) (by with_reducible exact HD.out) ?_
                  try simp only [Act.put, List.setIfInBounds_toArray, List.set_cons_zero, List.set_cons_succ]
                  refine anyU_take2 (i := 15) (v := .pointer (some ⟨q, off + j * 22 + 1 + 3, none⟩)) (by simp only [List.getElem?_toArray, List.getElem?_cons_succ, List.getElem?_cons_zero]; exact rfl) (by kernel_rfl) 12 (by kernel_rfl) (by kernel_rfl) (fun _ _ _ h => h) (by kernel_rfl) (by kernel_rfl) (by kernel_rfl) (by kernel_rfl) (Or.inl ⟨by rfl, fun w hSw => (by go_simp; try with_reducible rfl)⟩) (by with_reducible exact HD.out) ?_
                  try simp only [Act.put, List.setIfInBounds_toArray, List.set_cons_zero, List.set_cons_succ]
                  refine anyU_take2 (i := 16) (v := .agg #[.int .i64 f.2.v.1, .int .i64 f.2.v.2]) (by simp only [List.getElem?_toArray, List.getElem?_cons_succ, List.getElem?_cons_zero]; exact rfl) (by kernel_rfl) 12 (by kernel_rfl) (by kernel_rfl) (fun _ _ _ h => h) (by kernel_rfl) (by kernel_rfl) (by kernel_rfl) (by kernel_rfl) (Or.inl ⟨by rfl, fun w hSw => exec_load_gp (cs := [.int .i64 f.2.v.1, .int .i64 f.2.v.2]) rfl rfl (HY.out _ hSw).v bal_under rfl bal_info⟩) (by with_reducible exact HD.out) ?_
                  try simp only [Act.put, List.setIfInBounds_toArray, List.set_cons_zero, List.set_cons_succ]
                  refine anyU_take2 (i := 17) (v := .slice (some ⟨q, off, none⟩) m c) (by simp only [List.getElem?_toArray, List.getElem?_cons_succ, List.getElem?_cons_zero]; exact rfl) (by kernel_rfl) 12 (by kernel_rfl) (by kernel_rfl) (fun _ _ _ h => h) (by kernel_rfl) (by kernel_rfl) (by kernel_rfl) (by kernel_rfl) (Or.inl ⟨by rfl, fun w hSw => (by go_simp; try with_reducible rfl)⟩) (by with_reducible exact HD.out) ?_
                  try simp only [Act.put, List.setIfInBounds_toArray, List.set_cons_zero, List.set_cons_succ]
                  refine anyU_take2 (i := 18) (v := .int .i64 (k : Nat)) (by simp only [List.getElem?_toArray, List.getElem?_cons_succ, List.getElem?_cons_zero]; exact rfl) (by kernel_rfl) 12 (by kernel_rfl) (by kernel_rfl) (fun _ _ _ h => h) (by kernel_rfl) (by kernel_rfl) (by kernel_rfl) (by kernel_rfl) (Or.inl ⟨by rfl, fun w hSw => (by go_simp; try with_reducible rfl)⟩) (by with_reducible exact HD.out) ?_
                  try simp only [Act.put, List.setIfInBounds_toArray, List.set_cons_zero, List.set_cons_succ]
                  refine anyU_take2 (i := 19) (v := .pointer (some ⟨q, off + k * 22, none⟩)) (by simp only [List.getElem?_toArray, List.getElem?_cons_succ, List.getElem?_cons_zero]; exact rfl) (by kernel_rfl) 12 (by kernel_rfl) (by kernel_rfl) (fun _ _ _ h => h) (by kernel_rfl) (by kernel_rfl) (by kernel_rfl) (by kernel_rfl) (Or.inl ⟨by rfl, fun w hSw => (by go_simp; try with_reducible rfl)⟩) (by with_reducible exact HD.out) ?_
                  try simp only [Act.put, List.setIfInBounds_toArray, List.set_cons_zero, List.set_cons_succ]
                  refine anyU_take2 (i := 20) (v := .pointer (some ⟨q, off + k * 22 + 1, none⟩)) (by simp only [List.getElem?_toArray, List.getElem?_cons_succ, List.getElem?_cons_zero]; exact rfl) (by kernel_rfl) 12 (by kernel_rfl) (by kernel_rfl) (fun _ _ _ h => h) (by kernel_rfl) (by kernel_rfl) (by kernel_rfl) (by kernel_rfl) (Or.inl ⟨by rfl, fun w hSw => (by go_simp; try with_reducible rfl)⟩) (by with_reducible exact HD.out) ?_
                  try simp only [Act.put, List.setIfInBounds_toArray, List.set_cons_zero, List.set_cons_succ]
                  refine anyU_take2 (i := 21) (v := .pointer (some ⟨q, off + k * 22 + 1 + 3, none⟩)) (by simp only [List.getElem?_toArray, List.getElem?_cons_succ, List.getElem?_cons_zero]; exact rfl) (by kernel_rfl) 12 (by kernel_rfl) (by kernel_rfl) (fun _ _ _ h => h) (by kernel_rfl) (by kernel_rfl) (by kernel_rfl) (by kernel_rfl) (Or.inl ⟨by rfl, fun w hSw => (by go_simp; try with_reducible rfl)⟩) (by with_reducible exact HD.out) ?_
                  try simp only [Act.put, List.setIfInBounds_toArray, List.set_cons_zero, List.set_cons_succ]
                  refine anyU_take2 (i := 22) (v := .agg #[.int .i64 e.2.v.1, .int .i64 e.2.v.2]) (by simp only [List.getElem?_toArray, List.getElem?_cons_succ, List.getElem?_cons_zero]; exact rfl) (by kernel_rfl) 12 (by kernel_rfl) (by kernel_rfl) (fun _ _ _ h => h) (by kernel_rfl) (by kernel_rfl) (by kernel_rfl) (by kernel_rfl) (Or.inl ⟨by rfl, fun w hSw => exec_load_gp (cs := [.int .i64 e.2.v.1, .int .i64 e.2.v.2]) rfl rfl (HX.out _ hSw).v bal_under rfl bal_info⟩) (by with_reducible exact HD.out) ?_
                  try simp only [Act.put, List.setIfInBounds_toArray, List.set_cons_zero, List.set_cons_succ]
                  refine anyU_one (i := 23) (by kernel_rfl) (by simp only [List.getElem?_toArray, List.getElem?_cons_succ, List.getElem?_cons_zero]; exact rfl) (fun K hK => ?_)
                  try go_simp
                  refine (HBL.out _).mono ?_
                  rintro e5 w5 ⟨rfl, hb5⟩
                  replace HP := hide (HP.out.kept hb5)
                  replace HD := hide HP.out.low
                  clear hb5
                  refine hK.out _ _ (fun _ _ => HD.out) ?_
                  clear hK K
                  try simp only [Act.put, List.setIfInBounds_toArray, List.set_cons_zero, List.set_cons_succ]
                  refine anyU_take2 (i := 24) (v := .bool true) (by simp only [List.getElem?_toArray, List.getElem?_cons_succ, List.getElem?_cons_zero]; exact rfl) (by kernel_rfl) 12 (by kernel_rfl) (by kernel_rfl) (fun _ _ _ h => h) (by kernel_rfl) (by kernel_rfl) (by kernel_rfl) (by kernel_rfl) (Or.inl ⟨by rfl, fun w hSw => (by go_simp; try with_reducible rfl)⟩) (by with_reducible exact HD.out) ?_
                  try simp only [Act.put, List.setIfInBounds_toArray, List.set_cons_zero, List.set_cons_succ]
                  refine anyU_one (i := 25) (by kernel_rfl) (by simp only [List.getElem?_toArray, List.getElem?_cons_succ, List.getElem?_cons_zero]; exact rfl) (fun K hK => ?_)
                  try go_simp
                  refine hK.out _ _ (fun e _ => absurd rfl e) ?_
                  clear hK K
                  try simp only [Act.put]
                  refine anyU_done (by kernel_rfl) ?_
                  refine NoPanic.normal ?_
                  try simp only [Act.put]
                  clear h2
                  go_wp2
                  go_roundw
                  case rel => exact ⟨k + 1, k, by omega, rfl, by go_num, hide (.inr ⟨k, e, rfl, by omega, HE.out, by rw [best_take 2 HE.out, HB.out]; unfold bestF; rw [if_pos H2.out]; simp only; rw [HLT.out]; rfl⟩), HP⟩
                  case measure => simp [intOf]; omega
            · have h2b : (e.2.st == (2 : Int)) = false := by simpa using h2
              have H2 := hide h2
              clear h2
              go_upto_region 12 with (fail)
              refine wp_region_noPanic ?_
              refine wp_region_U 25 (fun wz => Below w.heap.size w wz) (by kernel_rfl) ?_
              replace HP := hide HP.out.drew
              generalize wr.drew = wd at HP ⊢
              have HD := hide HP.out.low
              refine anyU_take2 (i := 0) (v := .slice (some ⟨q, off, none⟩) m c) (by simp only [List.getElem?_toArray, List.getElem?_cons_zero]; exact rfl) (by kernel_rfl) 12 (by kernel_rfl) (by kernel_rfl) (fun _ _ _ h => h) (by kernel_rfl) (by kernel_rfl) (by kernel_rfl) (by kernel_rfl) (Or.inl ⟨by rfl, fun w hSw => (by go_simp; try with_reducible rfl)⟩) (by with_reducible exact HD.out) ?_
              try simp only [Act.put, List.setIfInBounds_toArray, List.set_cons_zero, List.set_cons_succ]
              refine anyU_take2 (i := 1) (v := .int .i64 (k : Nat)) (by simp only [List.getElem?_toArray, List.getElem?_cons_succ, List.getElem?_cons_zero]; exact rfl) (by kernel_rfl) 12 (by kernel_rfl) (by kernel_rfl) (fun _ _ _ h => h) (by kernel_rfl) (by kernel_rfl) (by kernel_rfl) (by kernel_rfl) (Or.inl ⟨by rfl, fun w hSw => (by go_simp; try with_reducible rfl)⟩) (by with_reducible exact HD.out) ?_
              try simp only [Act.put, List.setIfInBounds_toArray, List.set_cons_zero, List.set_cons_succ]
              refine anyU_take2 (i := 2) (v := .pointer (some ⟨q, off + k * 22, none⟩)) (by simp only [List.getElem?_toArray, List.getElem?_cons_succ, List.getElem?_cons_zero]; exact rfl) (by kernel_rfl) 12 (by kernel_rfl) (by kernel_rfl) (fun _ _ _ h => h) (by kernel_rfl) (by kernel_rfl) (by kernel_rfl) (by kernel_rfl) (Or.inl ⟨by rfl, fun w hSw => (by go_simp; try with_reducible rfl)⟩) (by with_reducible exact HD.out) ?_
              try simp only [Act.put, List.setIfInBounds_toArray, List.set_cons_zero, List.set_cons_succ]
              refine anyU_take2 (i := 3) (v := .pointer (some ⟨q, off + k * 22 + 1, none⟩)) (by simp only [List.getElem?_toArray, List.getElem?_cons_succ, List.getElem?_cons_zero]; exact rfl) (by kernel_rfl) 12 (by kernel_rfl) (by kernel_rfl) (fun _ _ _ h => h) (by kernel_rfl) (by kernel_rfl) (by kernel_rfl) (by kernel_rfl) (Or.inl ⟨by rfl, fun w hSw => (by go_simp; try with_reducible rfl)⟩) (by with_reducible exact HD.out) ?_
              try simp only [Act.put, List.setIfInBounds_toArray, List.set_cons_zero, List.set_cons_succ]
              refine anyU_take2 (i := 4) (v := .pointer (some ⟨q, off + k * 22 + 1, none⟩)) (by simp only [List.getElem?_toArray, List.getElem?_cons_succ, List.getElem?_cons_zero]; exact rfl) (by kernel_rfl) 12 (by kernel_rfl) (by kernel_rfl) (fun _ _ _ h => h) (by kernel_rfl) (by kernel_rfl) (by kernel_rfl) (by kernel_rfl) (Or.inl ⟨by rfl, fun w hSw => (by go_simp; try with_reducible rfl)⟩) (by with_reducible exact HD.out) ?_
              try simp only [Act.put, List.setIfInBounds_toArray, List.set_cons_zero, List.set_cons_succ]
              refine anyU_take2 (i := 5) (v := .int .i64 e.2.st) (by simp only [List.getElem?_toArray, List.getElem?_cons_succ, List.getElem?_cons_zero]; exact rfl) (by kernel_rfl) 12 (by kernel_rfl) (by kernel_rfl) (fun _ _ _ h => h) (by kernel_rfl) (by kernel_rfl) (by kernel_rfl) (by kernel_rfl) (Or.inl ⟨by rfl, fun w hSw => (by have x0 := (HX.out _ hSw).st; go_simp; try with_reducible rfl)⟩) (by with_reducible exact HD.out) ?_
              try simp only [Act.put, List.setIfInBounds_toArray, List.set_cons_zero, List.set_cons_succ]
              refine anyU_take2 (i := 6) (v := .bool false) (by simp only [List.getElem?_toArray, List.getElem?_cons_succ, List.getElem?_cons_zero]; exact rfl) (by kernel_rfl) 12 (by kernel_rfl) (by kernel_rfl) (fun _ _ _ h => h) (by kernel_rfl) (by kernel_rfl) (by kernel_rfl) (by kernel_rfl) (Or.inl ⟨by rfl, fun w hSw => (by go_simp; try with_reducible rfl)⟩) (by with_reducible exact HD.out) ?_
              try simp only [Act.put, List.setIfInBounds_toArray, List.set_cons_zero, List.set_cons_succ]
              refine anyU_take2 (i := 7) (v := .bool false) (by simp only [List.getElem?_toArray, List.getElem?_cons_succ, List.getElem?_cons_zero]; exact rfl) (by kernel_rfl) 12 (by kernel_rfl) (by kernel_rfl) (fun _ _ _ h => h) (by kernel_rfl) (by kernel_rfl) (by kernel_rfl) (by kernel_rfl) (Or.inl ⟨by rfl, fun w hSw => (by go_simp; try with_reducible rfl)⟩) (by with_reducible exact HD.out) ?_
              try simp only [Act.put, List.setIfInBounds_toArray, List.set_cons_zero, List.set_cons_succ]
              refine anyU_take2 (i := 8) (v := undef) (by simp only [List.getElem?_toArray, List.getElem?_cons_succ, List.getElem?_cons_zero]; exact rfl) (by kernel_rfl) 12 (by kernel_rfl) (by kernel_rfl) (fun _ _ _ h => h) (by kernel_rfl) (by kernel_rfl) (by kernel_rfl) (by kernel_rfl) (Or.inr ⟨by rfl, by rfl⟩) (by with_reducible exact HD.out) ?_
              try simp only [Act.put, List.setIfInBounds_toArray, List.set_cons_zero, List.set_cons_succ]
              refine anyU_take2 (i := 9) (v := undef) (by simp only [List.getElem?_toArray, List.getElem?_cons_succ, List.getElem?_cons_zero]; exact rfl) (by kernel_rfl) 12 (by kernel_rfl) (by kernel_rfl) (fun _ _ _ h => h) (by kernel_rfl) (by kernel_rfl) (by kernel_rfl) (by kernel_rfl) (Or.inr ⟨by rfl, by rfl⟩) (by with_reducible exact HD.out) ?_
              try simp only [Act.put, List.setIfInBounds_toArray, List.set_cons_zero, List.set_cons_succ]
              refine anyU_take2 (i := 10) (v := undef) (by simp only [List.getElem?_toArray, List.getElem?_cons_succ, List.getElem?_cons_zero]; exact rfl) (by kernel_rfl) 12 (by kernel_rfl) (by kernel_rfl) (fun _ _ _ h => h) (by kernel_rfl) (by kernel_rfl) (by kernel_rfl) (by kernel_rfl) (Or.inr ⟨by rfl, by rfl⟩) (by with_reducible exact HD.out) ?_
              try simp only [Act.put, List.setIfInBounds_toArray, List.set_cons_zero, List.set_cons_succ]
              refine anyU_take2 (i := 11) (v := undef) (by simp only [List.getElem?_toArray, List.getElem?_cons_succ, List.getElem?_cons_zero]; exact rfl) (by kernel_rfl) 12 (by kernel_rfl) (by kernel_rfl) (fun _ _ _ h => h) (by kernel_rfl) (by kernel_rfl) (by kernel_rfl) (by kernel_rfl) (Or.inr ⟨by rfl, by rfl⟩) (by with_reducible exact HD.out) ?_
              try simp only [Act.put, List.setIfInBounds_toArray, List.set_cons_zero, List.set_cons_succ]
              refine anyU_take2 (i := 12) (v := undef) (by simp only [List.getElem?_toArray, List.getElem?_cons_succ, List.getElem?_cons_zero]; exact rfl) (by kernel_rfl) 12 (by kernel_rfl) (by kernel_rfl) (fun _ _ _ h => h) (by kernel_rfl) (by kernel_rfl) (by kernel_rfl) (by kernel_rfl) (Or.inr ⟨by rfl, by rfl⟩) (by with_reducible exact HD.out) ?_
              try simp only [Act.put, List.setIfInBounds_toArray, List.set_cons_zero, List.set_cons_succ]
              refine anyU_take2 (i := 13) (v := undef) (by simp only [List.getElem?_toArray, List.getElem?_cons_succ, List.getElem?_cons_zero]; exact rfl) (by kernel_rfl) 12 (by kernel_rfl) (by kernel_rfl) (fun _ _ _ h => h) (by kernel_rfl) (by kernel_rfl) (by kernel_rfl) (by kernel_rfl) (Or.inr ⟨by rfl, by rfl⟩) (by with_reducible exact HD.out) ?_
              try simp only [Act.put, List.setIfInBounds_toArray, List.set_cons_zero, List.set_cons_succ]
              refine anyU_take2 (i := 14) (v := undef) (by simp only [List.getElem?_toArray, List.getElem?_cons_succ, List.getElem?_cons_zero]; exact rfl) (by kernel_rfl) 12 (by kernel_rfl) (by kernel_rfl) (fun _ _ _ h => h) (by kernel_rfl) (by kernel_rfl) (by kernel_rfl) (by kernel_rfl) (Or.inr ⟨by rfl, by rfl⟩) (by with_reducible exact HD.out) ?_
              try simp only [Act.put, List.setIfInBounds_toArray, List.set_cons_zero, List.set_cons_succ]
              refine anyU_take2 (i := 15) (v := undef) (by simp only [List.getElem?_toArray, List.getElem?_cons_succ, List.getElem?_cons_zero]; exact rfl) (by kernel_rfl) 12 (by kernel_rfl) (by kernel_rfl) (fun _ _ _ h => h) (by kernel_rfl) (by kernel_rfl) (by kernel_rfl) (by kernel_rfl) (Or.inr ⟨by rfl, by rfl⟩) (by with_reducible exact HD.out) ?_
              try simp only [Act.put, List.setIfInBounds_toArray, List.set_cons_zero, List.set_cons_succ]
              refine anyU_take2 (i := 16) (v := undef) (by simp only [List.getElem?_toArray, List.getElem?_cons_succ, List.getElem?_cons_zero]; exact rfl) (by kernel_rfl) 12 (by kernel_rfl) (by kernel_rfl) (fun _ _ _ h => h) (by kernel_rfl) (by kernel_rfl) (by kernel_rfl) (by kernel_rfl) (Or.inr ⟨by rfl, by rfl⟩) (by with_reducible exact HD.out) ?_
              try simp only [Act.put, List.setIfInBounds_toArray, List.set_cons_zero, List.set_cons_succ]
              refine anyU_take2 (i := 17) (v := undef) (by simp only [List.getElem?_toArray, List.getElem?_cons_succ, List.getElem?_cons_zero]; exact rfl) (by kernel_rfl) 12 (by kernel_rfl) (by kernel_rfl) (fun _ _ _ h => h) (by kernel_rfl) (by kernel_rfl) (by kernel_rfl) (by kernel_rfl) (Or.inr ⟨by rfl, by rfl⟩) (by with_reducible exact HD.out) ?_
              try simp only [Act.put, List.setIfInBounds_toArray, List.set_cons_zero, List.set_cons_succ]
              refine anyU_take2 (i := 18) (v := undef) (by simp only [List.getElem?_toArray, List.getElem?_cons_succ, List.getElem?_cons_zero]; exact rfl) (by kernel_rfl) 12 (by kernel_rfl) (by kernel_rfl) (fun _ _ _ h => h) (by kernel_rfl) (by kernel_rfl) (by kernel_rfl) (by kernel_rfl) (Or.inr ⟨by rfl, by rfl⟩) (by with_reducible exact HD.out) ?_
              try simp only [Act.put, List.setIfInBounds_toArray, List.set_cons_zero, List.set_cons_succ]
              refine anyU_take2 (i := 19) (v := undef) (by simp only [List.getElem?_toArray, List.getElem?_cons_succ, List.getElem?_cons_zero]; exact rfl) (by kernel_rfl) 12 (by kernel_rfl) (by kernel_rfl) (fun _ _ _ h => h) (by kernel_rfl) (by kernel_rfl) (by kernel_rfl) (by kernel_rfl) (Or.inr ⟨by rfl, by rfl⟩) (by with_reducible exact HD.out) ?_
              try simp only [Act.put, List.setIfInBounds_toArray, List.set_cons_zero, List.set_cons_succ]
              refine anyU_take2 (i := 20) (v := undef) (by simp only [List.getElem?_toArray, List.getElem?_cons_succ, List.getElem?_cons_zero]; exact rfl) (by kernel_rfl) 12 (by kernel_rfl) (by kernel_rfl) (fun _ _ _ h => h) (by kernel_rfl) (by kernel_rfl) (by kernel_rfl) (by kernel_rfl) (Or.inr ⟨by rfl, by rfl⟩) (by with_reducible exact HD.out) ?_
              try simp only [Act.put, List.setIfInBounds_toArray, List.set_cons_zero, List.set_cons_succ]
              refine anyU_take2 (i := 21) (v := undef) (by simp only [List.getElem?_toArray, List.getElem?_cons_succ, List.getElem?_cons_zero]; exact rfl) (by kernel_rfl) 12 (by kernel_rfl) (by kernel_rfl) (fun _ _ _ h => h) (by kernel_rfl) (by kernel_rfl) (by kernel_rfl) (by kernel_rfl) (Or.inr ⟨by rfl, by rfl⟩) (by with_reducible exact HD.out) ?_
              try simp only [Act.put, List.setIfInBounds_toArray, List.set_cons_zero, List.set_cons_succ]
              refine anyU_take2 (i := 22) (v := undef) (by simp only [List.getElem?_toArray, List.getElem?_cons_succ, List.getElem?_cons_zero]; exact rfl) (by kernel_rfl) 12 (by kernel_rfl) (by kernel_rfl) (fun _ _ _ h => h) (by kernel_rfl) (by kernel_rfl) (by kernel_rfl) (by kernel_rfl) (Or.inr ⟨by rfl, by rfl⟩) (by with_reducible exact HD.out) ?_
              try simp only [Act.put, List.setIfInBounds_toArray, List.set_cons_zero, List.set_cons_succ]
              refine anyU_take2 (i := 23) (v := undef) (by simp only [List.getElem?_toArray, List.getElem?_cons_succ, List.getElem?_cons_zero]; exact rfl) (by kernel_rfl) 12 (by kernel_rfl) (by kernel_rfl) (fun _ _ _ h => h) (by kernel_rfl) (by kernel_rfl) (by kernel_rfl) (by kernel_rfl) (Or.inr ⟨by rfl, by rfl⟩) (by with_reducible exact HD.out) ?_
              try simp only [Act.put, List.setIfInBounds_toArray, List.set_cons_zero, List.set_cons_succ]
              refine anyU_take2 (i := 24) (v := undef) (by simp only [List.getElem?_toArray, List.getElem?_cons_succ, List.getElem?_cons_zero]; exact rfl) (by kernel_rfl) 12 (by kernel_rfl) (by kernel_rfl) (fun _ _ _ h => h) (by kernel_rfl) (by kernel_rfl) (by kernel_rfl) (by kernel_rfl) (Or.inr ⟨by rfl, by rfl⟩) (by with_reducible exact HD.out) ?_
              try simp only [Act.put, List.setIfInBounds_toArray, List.set_cons_zero, List.set_cons_succ]
              refine anyU_one (i := 25) (by kernel_rfl) (by simp only [List.getElem?_toArray, List.getElem?_cons_succ, List.getElem?_cons_zero]; exact rfl) (fun K hK => ?_)
              try go_simp
              refine hK.out _ _ (fun e _ => absurd rfl e) ?_
              clear hK K
              try simp only [Act.put]
              refine anyU_done (by kernel_rfl) ?_
              refine NoPanic.normal ?_
              try simp only [Act.put]
              clear h2b
              go_wp2
              go_roundw
              case rel => exact ⟨k + 1, bi, by omega, rfl, by go_num, hide (HBI.out.no HE.out H2.out), HP⟩
              case measure => simp [intOf]; omega
          · have hkmi : ¬ (k : Int) < (m : Int) := by omega
            have hkk : k = m := by omega
            have htk : l.take k = l := List.take_of_length_le (by rw [HM.out]; omega)
            rcases HBI.out with ⟨rfl, hb⟩ | ⟨j, f, rfl, hjk, hf, hb⟩
            · rw [htk] at hb
              replace HPL := hide (show (match bestL 1 none l with
        | none => ((4 : Int), zeroC, zero8)
        | some c => if (l.all fun e => decide (e.1 ≠ owner)) && decide (n / 2 ≤ (sameL owner l).length) then (2, ((sameL owner l).headD (0, zeroCl)).2.c, ((sameL owner l).headD (0, zeroCl)).2.a)
          else (3, c.c, c.a)) = P from by
                have h := HPL.out
                rw [hb] at h
                exact h)
              clear hb htk hkk HBI
              go_upto_region 17 with (fail)
              have HPR := hide (show Prr w ((wr.alloc (.cells #[.int .i64 0, .int .i64 0, .int .i64 0, .int .i64 0, .int .i64 0, .int .i64 0, .int .i64 0, .int .i64 0, .string ⟨#[]⟩, .string ⟨#[]⟩, .string ⟨#[]⟩, .string ⟨#[]⟩, .int .i64 0, .int .i64 0, .int .i64 0, .int .i64 0, .int .i64 0, .int .i64 0, .int .i64 0, .int .i64 0, .bool false] 34)).alloc (.cells #[.int .i64 0, .int .i64 0, .int .i64 0, .int .i64 0, .int .i64 0, .int .i64 0, .int .i64 0, .int .i64 0, .string ⟨#[]⟩, .string ⟨#[]⟩, .string ⟨#[]⟩, .string ⟨#[]⟩, .int .i64 0, .int .i64 0, .int .i64 0, .int .i64 0, .int .i64 0, .int .i64 0, .int .i64 0, .int .i64 0, .bool false] 34)) zeroCl zeroCl wr.heap.size (wr.heap.size + 1) from Prr.start HP.out)
              generalize (wr.alloc (.cells #[.int .i64 0, .int .i64 0, .int .i64 0, .int .i64 0, .int .i64 0, .int .i64 0, .int .i64 0, .int .i64 0, .string ⟨#[]⟩, .string ⟨#[]⟩, .string ⟨#[]⟩, .string ⟨#[]⟩, .int .i64 0, .int .i64 0, .int .i64 0, .int .i64 0, .int .i64 0, .int .i64 0, .int .i64 0, .int .i64 0, .bool false] 34)).alloc (.cells #[.int .i64 0, .int .i64 0, .int .i64 0, .int .i64 0, .int .i64 0, .int .i64 0, .int .i64 0, .int .i64 0, .string ⟨#[]⟩, .string ⟨#[]⟩, .string ⟨#[]⟩, .string ⟨#[]⟩, .int .i64 0, .int .i64 0, .int .i64 0, .int .i64 0, .int .i64 0, .int .i64 0, .int .i64 0, .int .i64 0, .bool false] 34) = w2 at HPR ⊢
              generalize wr.heap.size = g1 at HPR ⊢
              clear HP
              go_wp2
              go_loopw [14, 15, 16] (fun t cc i wr => ∃ k : Nat, k ≤ m ∧ t = .bool (!(l.take k).all fun e => decide (e.1 ≠ owner)) ∧ cc = .int .i64 ((sameL owner (l.take k)).length : Nat) ∧ i = .int .i64 k ∧ Hid (Prr w wr ((bestL 1 none (l.take k)).getD zeroCl) ((sameL owner (l.take k)).headD (0, zeroCl)).2 g1 (g1 + 1))) (fun _ _ i _ => m - (intOf i).toNat)
              case atStart => exact ⟨0, Nat.zero_le _, rfl, rfl, rfl, HPR⟩
              case round =>
                clear HPR hkm hkmi hk
                obtain ⟨k, hk, rfl, rfl, rfl, HPR⟩ := hrel
                by_cases hkm : k < m
                · have hkmi : (k : Int) < (m : Int) := by omega
                  obtain ⟨e, he⟩ : ∃ e, l[k]? = some e := ⟨_, List.getElem?_eq_getElem (by rw [HM.out]; exact hkm)⟩
                  obtain ⟨q, off, hA, _⟩ := (HL.out.below HPR.out.p.low).at_ he
                  subst hA
                  have HX := hide (here_of HL.out he rfl)
                  have he8 := HL.out.a8 e (List.mem_of_getElem? he)
                  have HE := hide he
                  clear he
                  have HBT := hide (best_take 1 HE.out)
                  have HST := hide (same_take owner HE.out)
                  have HAT := hide (all_take owner HE.out)
                  have hcnl : (sameL owner (l.take k)).length ≤ 1000 := Nat.le_trans (List.length_filter_le _ _) (by rw [List.length_take]; omega)
                  have HBF := hide (fun c (h : bestL 1 none (l.take k) = some c) => bestL_from h)
                  generalize (!(l.take k).all fun e => decide (e.1 ≠ owner)) = T at HAT ⊢
                  generalize bestL 1 none (l.take k) = o at HBT HPR HBF
                  generalize sameL owner (l.take k) = sl at HST HPR hcnl ⊢
                  obtain ⟨cn, hcn⟩ : ∃ cn, sl.length = cn := ⟨_, rfl⟩
                  rw [hcn] at hcnl ⊢
                  have HCN := hide hcn
                  clear hcn
                  have hcx := (HX.out wr HPR.out.p.low).c
                  go_upto_region 22 with (first
                    | ((with_reducible refine wpList_load_ce he8 ?_ ?_ hcx ?_); rfl; rfl)
                    | ((with_reducible refine wpList_store_new (vs := clC e.2) ?_ ?_ (cl_all _) ?_ ?_ ?_); (rw [clC_size he8]; exact ce_info); (rw [clC_size he8]; rfl); (first | rfl | (simp; done)); rfl))
                  try dsimp only [Act.put]
                  have HC := hide (CeAt.new he8 wr 34)
                  have HGC := hide (show wr.heap.size ≠ g1 ∧ wr.heap.size ≠ g1 + 1 from ⟨by have := HPR.out.s.lt; omega, by have := HPR.out.f.lt; omega⟩)
                  replace HPR := hide (HPR.out.kept (kept_alloc (kept_refl wr) (.cells (clC e.2) 34)))
                  generalize wr.alloc (.cells (clC e.2) 34) = w3 at HC HPR ⊢
                  generalize wr.heap.size = gc at HC HGC ⊢
                  clear hcx
                  go_cut [14] from 97 to 147 (fun s14 wx => s14 = .bool (T || decide (e.1 = owner)) ∧ wx = w3)
                  case first =>
                    have s0 := (HX.out w3 HPR.out.p.low).r
                    cases T
                    · by_cases ho : e.1 = owner
                      · have hob : (e.1 == owner) = true := by simpa using ho
                        have HO := hide ho
                        clear ho
                        go_wp2
                        go_meet
                        exact ⟨by rw [decide_eq_true HO.out]; rfl, rfl⟩
                      · have hob : (e.1 == owner) = false := by simpa using ho
                        have HO := hide ho
                        clear ho
                        go_wp2
                        go_meet
                        exact ⟨by rw [decide_eq_false HO.out]; rfl, rfl⟩
                    · go_wp2
                      go_meet
                      exact ⟨rfl, rfl⟩
                  case rest =>
                  obtain ⟨hs14, hwc⟩ := hcut
                  subst hs14
                  have hwc' := hwc.symm
                  subst hwc'
                  by_cases h1 : e.2.st = 1
                  · have H1 := hide h1
                    cases o
                    · have HBL := hide True.intro
                      replace HBT := hide (show (bestL 1 none (l.take (k + 1))).getD zeroCl = e.2 from by rw [HBT.out]; unfold bestF; rw [if_pos h1]; rfl)
                      by_cases ho : e.1 = owner
                      · skip
                        replace HST := hide (show sameL owner (l.take (k + 1)) = sl from by rw [HST.out]; simp [h1, ho])
                        have hob : (e.1 != owner) = false := by simpa using ho
                        clear ho h1
                        have c0 := HC.out.st
                        have c20 := HC.out.s
                        have z0 := HPR.out.s.st
                        have s0 := (HX.out _ HPR.out.p.low).r
                        rw [H1.out] at c0
                        go_wp2_with (first
                          | ((with_reducible refine wpList_load_bal ?_ ?_ HPR.out.s.v ?_); rfl; rfl)
                          | ((with_reducible refine wpList_load_bal ?_ ?_ HC.out.v ?_); rfl; rfl)
                          | ((with_reducible refine wpList_load_ce he8 ?_ ?_ HC.out.all ?_); rfl; rfl)
                          | (go_at_call 45; (with_reducible refine (HBL.out _).mono ?_); rintro e5 w5 ⟨rfl, hb5⟩; replace HPR := hide (HPR.out.kept hb5); replace HC := hide (HC.out.kept hb5); clear hb5 c0 z0 s0 c20; have c0 := HC.out.st; have c20 := HC.out.s; have s0 := (HX.out _ HPR.out.p.low).r)
                          | ((with_reducible refine wpList_store_xw (y := e.2) he8 ?_ ?_ HPR.out.s ?_); rfl; rfl; intro w6 hn hg; replace HC := hide (HC.out.other hg HGC.out.1); replace HPR := hide (HPR.out.puts hn hg); clear hn hg c0 s0 c20; (try clear z0); have c0 := HC.out.st; have c20 := HC.out.s; have s0 := (HX.out _ HPR.out.p.low).r)
                          | ((with_reducible refine wpList_store_xw (y := e.2) he8 ?_ ?_ HPR.out.f ?_); rfl; rfl; intro w7 hn hg; replace HC := hide (HC.out.other hg HGC.out.2); replace HPR := hide (HPR.out.putf hn hg); clear hn hg c0 s0 c20))
                        go_roundw
                        case rel =>
                          refine ⟨k + 1, by omega, by rw [HAT.out], by rw [HST.out, HCN.out], by go_num, hide ?_⟩
                          have h := HPR.out
                          rw [HBT.out, HST.out]
                          exact h
                        case measure => simp [intOf]; omega
                      · cases hsm : e.2.s
                        · skip
                          replace HST := hide (show sameL owner (l.take (k + 1)) = sl from by rw [HST.out]; simp [h1, ho, hsm])
                          have hob : (e.1 != owner) = true := by simpa using ho
                          clear ho h1
                          have c0 := HC.out.st
                          have c20 := HC.out.s
                          have z0 := HPR.out.s.st
                          have s0 := (HX.out _ HPR.out.p.low).r
                          rw [H1.out] at c0
                          rw [hsm] at c20
                          go_wp2_with (first
                            | ((with_reducible refine wpList_load_bal ?_ ?_ HPR.out.s.v ?_); rfl; rfl)
                            | ((with_reducible refine wpList_load_bal ?_ ?_ HC.out.v ?_); rfl; rfl)
                            | ((with_reducible refine wpList_load_ce he8 ?_ ?_ HC.out.all ?_); rfl; rfl)
                            | (go_at_call 45; (with_reducible refine (HBL.out _).mono ?_); rintro e5 w5 ⟨rfl, hb5⟩; replace HPR := hide (HPR.out.kept hb5); replace HC := hide (HC.out.kept hb5); clear hb5 c0 z0 s0 c20; have c0 := HC.out.st; have c20 := HC.out.s; have s0 := (HX.out _ HPR.out.p.low).r)
                            | ((with_reducible refine wpList_store_xw (y := e.2) he8 ?_ ?_ HPR.out.s ?_); rfl; rfl; intro w6 hn hg; replace HC := hide (HC.out.other hg HGC.out.1); replace HPR := hide (HPR.out.puts hn hg); clear hn hg c0 s0 c20; (try clear z0); have c0 := HC.out.st; have c20 := HC.out.s; have s0 := (HX.out _ HPR.out.p.low).r)
                            | ((with_reducible refine wpList_store_xw (y := e.2) he8 ?_ ?_ HPR.out.f ?_); rfl; rfl; intro w7 hn hg; replace HC := hide (HC.out.other hg HGC.out.2); replace HPR := hide (HPR.out.putf hn hg); clear hn hg c0 s0 c20))
                          go_roundw
                          case rel =>
                            refine ⟨k + 1, by omega, by rw [HAT.out], by rw [HST.out, HCN.out], by go_num, hide ?_⟩
                            have h := HPR.out
                            rw [HBT.out, HST.out]
                            exact h
                          case measure => simp [intOf]; omega
                        · cases hsl0 : sl
                          · skip
                            replace HST := hide (show sameL owner (l.take (k + 1)) = sl ++ [e] from by rw [HST.out]; simp [h1, ho, hsm])
                            have hcn0 : ((cn : Int) == 0) = true := by have := HCN.out; rw [hsl0] at this; subst this; rfl
                            have hob : (e.1 != owner) = true := by simpa using ho
                            clear ho h1
                            have c0 := HC.out.st
                            have c20 := HC.out.s
                            have z0 := HPR.out.s.st
                            have s0 := (HX.out _ HPR.out.p.low).r
                            rw [H1.out] at c0
                            rw [hsm] at c20
                            go_wp2_with (first
                              | ((with_reducible refine wpList_load_bal ?_ ?_ HPR.out.s.v ?_); rfl; rfl)
                              | ((with_reducible refine wpList_load_bal ?_ ?_ HC.out.v ?_); rfl; rfl)
                              | ((with_reducible refine wpList_load_ce he8 ?_ ?_ HC.out.all ?_); rfl; rfl)
                              | (go_at_call 45; (with_reducible refine (HBL.out _).mono ?_); rintro e5 w5 ⟨rfl, hb5⟩; replace HPR := hide (HPR.out.kept hb5); replace HC := hide (HC.out.kept hb5); clear hb5 c0 z0 s0 c20; have c0 := HC.out.st; have c20 := HC.out.s; have s0 := (HX.out _ HPR.out.p.low).r)
                              | ((with_reducible refine wpList_store_xw (y := e.2) he8 ?_ ?_ HPR.out.s ?_); rfl; rfl; intro w6 hn hg; replace HC := hide (HC.out.other hg HGC.out.1); replace HPR := hide (HPR.out.puts hn hg); clear hn hg c0 s0 c20; (try clear z0); have c0 := HC.out.st; have c20 := HC.out.s; have s0 := (HX.out _ HPR.out.p.low).r)
                              | ((with_reducible refine wpList_store_xw (y := e.2) he8 ?_ ?_ HPR.out.f ?_); rfl; rfl; intro w7 hn hg; replace HC := hide (HC.out.other hg HGC.out.2); replace HPR := hide (HPR.out.putf hn hg); clear hn hg c0 s0 c20))
                            go_roundw
                            case rel =>
                              refine ⟨k + 1, by omega, by rw [HAT.out], by rw [HST.out, show (sl ++ [e]).length = cn + 1 by rw [List.length_append, HCN.out]; rfl]; go_num, by go_num, hide ?_⟩
                              have h := HPR.out
                              rw [HBT.out, HST.out]
                              rw [hsl0]
                              exact h
                            case measure => simp [intOf]; omega
                          · skip
                            replace HST := hide (show sameL owner (l.take (k + 1)) = sl ++ [e] from by rw [HST.out]; simp [h1, ho, hsm])
                            have hcn0 : ((cn : Int) == 0) = false := by have := HCN.out; rw [hsl0] at this; simp at this; simp; omega
                            have hob : (e.1 != owner) = true := by simpa using ho
                            clear ho h1
                            have c0 := HC.out.st
                            have c20 := HC.out.s
                            have z0 := HPR.out.s.st
                            have s0 := (HX.out _ HPR.out.p.low).r
                            rw [H1.out] at c0
                            rw [hsm] at c20
                            go_wp2_with (first
                              | ((with_reducible refine wpList_load_bal ?_ ?_ HPR.out.s.v ?_); rfl; rfl)
                              | ((with_reducible refine wpList_load_bal ?_ ?_ HC.out.v ?_); rfl; rfl)
                              | ((with_reducible refine wpList_load_ce he8 ?_ ?_ HC.out.all ?_); rfl; rfl)
                              | (go_at_call 45; (with_reducible refine (HBL.out _).mono ?_); rintro e5 w5 ⟨rfl, hb5⟩; replace HPR := hide (HPR.out.kept hb5); replace HC := hide (HC.out.kept hb5); clear hb5 c0 z0 s0 c20; have c0 := HC.out.st; have c20 := HC.out.s; have s0 := (HX.out _ HPR.out.p.low).r)
                              | ((with_reducible refine wpList_store_xw (y := e.2) he8 ?_ ?_ HPR.out.s ?_); rfl; rfl; intro w6 hn hg; replace HC := hide (HC.out.other hg HGC.out.1); replace HPR := hide (HPR.out.puts hn hg); clear hn hg c0 s0 c20; (try clear z0); have c0 := HC.out.st; have c20 := HC.out.s; have s0 := (HX.out _ HPR.out.p.low).r)
                              | ((with_reducible refine wpList_store_xw (y := e.2) he8 ?_ ?_ HPR.out.f ?_); rfl; rfl; intro w7 hn hg; replace HC := hide (HC.out.other hg HGC.out.2); replace HPR := hide (HPR.out.putf hn hg); clear hn hg c0 s0 c20))
                            go_roundw
                            case rel =>
                              refine ⟨k + 1, by omega, by rw [HAT.out], by rw [HST.out, show (sl ++ [e]).length = cn + 1 by rw [List.length_append, HCN.out]; rfl]; go_num, by go_num, hide ?_⟩
                              have h := HPR.out
                              rw [HBT.out, HST.out]
                              rw [hsl0] at h ⊢
                              exact h
                            case measure => simp [intOf]; omega
                    · rename_i b0
                      have hb1 : b0.st = 1 := by rcases HBF.out b0 rfl with h | ⟨x, _, hx, hx1⟩; cases h; rw [← hx]; exact hx1
                      have HBL := hide (fun w => refbelow_any b0.v.1 b0.v.2 e.2.v.1 e.2.v.2 w)
                      rw [show ((b0.v.1, b0.v.2) : Int × Int) = b0.v from rfl, show ((e.2.v.1, e.2.v.2) : Int × Int) = e.2.v from rfl] at HBL
                      replace HPR := hide (show Prr w w3 b0 (sl.headD (0, zeroCl)).2 g1 (g1 + 1) from HPR.out)
                      cases hlt3 : ltP b0.v e.2.v
                      · rw [hlt3] at HBL
                        replace HBT := hide (show (bestL 1 none (l.take (k + 1))).getD zeroCl = b0 from by rw [HBT.out]; unfold bestF; rw [if_pos h1]; simp only; rw [hlt3]; rfl)
                        clear hlt3
                        by_cases ho : e.1 = owner
                        · skip
                          replace HST := hide (show sameL owner (l.take (k + 1)) = sl from by rw [HST.out]; simp [h1, ho])
                          have hob : (e.1 != owner) = false := by simpa using ho
                          clear ho h1
                          have c0 := HC.out.st
                          have c20 := HC.out.s
                          have z0 := HPR.out.s.st
                          have s0 := (HX.out _ HPR.out.p.low).r
                          rw [H1.out] at c0
                          rw [hb1] at z0
                          go_wp2_with (first
                            | ((with_reducible refine wpList_load_bal ?_ ?_ HPR.out.s.v ?_); rfl; rfl)
                            | ((with_reducible refine wpList_load_bal ?_ ?_ HC.out.v ?_); rfl; rfl)
                            | ((with_reducible refine wpList_load_ce he8 ?_ ?_ HC.out.all ?_); rfl; rfl)
                            | (go_at_call 45; (with_reducible refine (HBL.out _).mono ?_); rintro e5 w5 ⟨rfl, hb5⟩; replace HPR := hide (HPR.out.kept hb5); replace HC := hide (HC.out.kept hb5); clear hb5 c0 z0 s0 c20; have c0 := HC.out.st; have c20 := HC.out.s; have s0 := (HX.out _ HPR.out.p.low).r)
                            | ((with_reducible refine wpList_store_xw (y := e.2) he8 ?_ ?_ HPR.out.s ?_); rfl; rfl; intro w6 hn hg; replace HC := hide (HC.out.other hg HGC.out.1); replace HPR := hide (HPR.out.puts hn hg); clear hn hg c0 s0 c20; (try clear z0); have c0 := HC.out.st; have c20 := HC.out.s; have s0 := (HX.out _ HPR.out.p.low).r)
                            | ((with_reducible refine wpList_store_xw (y := e.2) he8 ?_ ?_ HPR.out.f ?_); rfl; rfl; intro w7 hn hg; replace HC := hide (HC.out.other hg HGC.out.2); replace HPR := hide (HPR.out.putf hn hg); clear hn hg c0 s0 c20))
                          go_roundw
                          case rel =>
                            refine ⟨k + 1, by omega, by rw [HAT.out], by rw [HST.out, HCN.out], by go_num, hide ?_⟩
                            have h := HPR.out
                            rw [HBT.out, HST.out]
                            exact h
                          case measure => simp [intOf]; omega
                        · cases hsm : e.2.s
                          · skip
                            replace HST := hide (show sameL owner (l.take (k + 1)) = sl from by rw [HST.out]; simp [h1, ho, hsm])
                            have hob : (e.1 != owner) = true := by simpa using ho
                            clear ho h1
                            have c0 := HC.out.st
                            have c20 := HC.out.s
                            have z0 := HPR.out.s.st
                            have s0 := (HX.out _ HPR.out.p.low).r
                            rw [H1.out] at c0
                            rw [hb1] at z0
                            rw [hsm] at c20
                            go_wp2_with (first
                              | ((with_reducible refine wpList_load_bal ?_ ?_ HPR.out.s.v ?_); rfl; rfl)
                              | ((with_reducible refine wpList_load_bal ?_ ?_ HC.out.v ?_); rfl; rfl)
                              | ((with_reducible refine wpList_load_ce he8 ?_ ?_ HC.out.all ?_); rfl; rfl)
                              | (go_at_call 45; (with_reducible refine (HBL.out _).mono ?_); rintro e5 w5 ⟨rfl, hb5⟩; replace HPR := hide (HPR.out.kept hb5); replace HC := hide (HC.out.kept hb5); clear hb5 c0 z0 s0 c20; have c0 := HC.out.st; have c20 := HC.out.s; have s0 := (HX.out _ HPR.out.p.low).r)
                              | ((with_reducible refine wpList_store_xw (y := e.2) he8 ?_ ?_ HPR.out.s ?_); rfl; rfl; intro w6 hn hg; replace HC := hide (HC.out.other hg HGC.out.1); replace HPR := hide (HPR.out.puts hn hg); clear hn hg c0 s0 c20; (try clear z0); have c0 := HC.out.st; have c20 := HC.out.s; have s0 := (HX.out _ HPR.out.p.low).r)
                              | ((with_reducible refine wpList_store_xw (y := e.2) he8 ?_ ?_ HPR.out.f ?_); rfl; rfl; intro w7 hn hg; replace HC := hide (HC.out.other hg HGC.out.2); replace HPR := hide (HPR.out.putf hn hg); clear hn hg c0 s0 c20))
                            go_roundw
                            case rel =>
                              refine ⟨k + 1, by omega, by rw [HAT.out], by rw [HST.out, HCN.out], by go_num, hide ?_⟩
                              have h := HPR.out
                              rw [HBT.out, HST.out]
                              exact h
                            case measure => simp [intOf]; omega
                          · cases hsl0 : sl
                            · skip
                              replace HST := hide (show sameL owner (l.take (k + 1)) = sl ++ [e] from by rw [HST.out]; simp [h1, ho, hsm])
                              have hcn0 : ((cn : Int) == 0) = true := by have := HCN.out; rw [hsl0] at this; subst this; rfl
                              have hob : (e.1 != owner) = true := by simpa using ho
                              clear ho h1
                              have c0 := HC.out.st
                              have c20 := HC.out.s
                              have z0 := HPR.out.s.st
                              have s0 := (HX.out _ HPR.out.p.low).r
                              rw [H1.out] at c0
                              rw [hb1] at z0
                              rw [hsm] at c20
                              go_wp2_with (first
                                | ((with_reducible refine wpList_load_bal ?_ ?_ HPR.out.s.v ?_); rfl; rfl)
                                | ((with_reducible refine wpList_load_bal ?_ ?_ HC.out.v ?_); rfl; rfl)
                                | ((with_reducible refine wpList_load_ce he8 ?_ ?_ HC.out.all ?_); rfl; rfl)
                                | (go_at_call 45; (with_reducible refine (HBL.out _).mono ?_); rintro e5 w5 ⟨rfl, hb5⟩; replace HPR := hide (HPR.out.kept hb5); replace HC := hide (HC.out.kept hb5); clear hb5 c0 z0 s0 c20; have c0 := HC.out.st; have c20 := HC.out.s; have s0 := (HX.out _ HPR.out.p.low).r)
                                | ((with_reducible refine wpList_store_xw (y := e.2) he8 ?_ ?_ HPR.out.s ?_); rfl; rfl; intro w6 hn hg; replace HC := hide (HC.out.other hg HGC.out.1); replace HPR := hide (HPR.out.puts hn hg); clear hn hg c0 s0 c20; (try clear z0); have c0 := HC.out.st; have c20 := HC.out.s; have s0 := (HX.out _ HPR.out.p.low).r)
                                | ((with_reducible refine wpList_store_xw (y := e.2) he8 ?_ ?_ HPR.out.f ?_); rfl; rfl; intro w7 hn hg; replace HC := hide (HC.out.other hg HGC.out.2); replace HPR := hide (HPR.out.putf hn hg); clear hn hg c0 s0 c20))
                              go_roundw
                              case rel =>
                                refine ⟨k + 1, by omega, by rw [HAT.out], by rw [HST.out, show (sl ++ [e]).length = cn + 1 by rw [List.length_append, HCN.out]; rfl]; go_num, by go_num, hide ?_⟩
                                have h := HPR.out
                                rw [HBT.out, HST.out]
                                rw [hsl0]
                                exact h
                              case measure => simp [intOf]; omega
                            · skip
                              replace HST := hide (show sameL owner (l.take (k + 1)) = sl ++ [e] from by rw [HST.out]; simp [h1, ho, hsm])
                              have hcn0 : ((cn : Int) == 0) = false := by have := HCN.out; rw [hsl0] at this; simp at this; simp; omega
                              have hob : (e.1 != owner) = true := by simpa using ho
                              clear ho h1
                              have c0 := HC.out.st
                              have c20 := HC.out.s
                              have z0 := HPR.out.s.st
                              have s0 := (HX.out _ HPR.out.p.low).r
                              rw [H1.out] at c0
                              rw [hb1] at z0
                              rw [hsm] at c20
                              go_wp2_with (first
                                | ((with_reducible refine wpList_load_bal ?_ ?_ HPR.out.s.v ?_); rfl; rfl)
                                | ((with_reducible refine wpList_load_bal ?_ ?_ HC.out.v ?_); rfl; rfl)
                                | ((with_reducible refine wpList_load_ce he8 ?_ ?_ HC.out.all ?_); rfl; rfl)
                                | (go_at_call 45; (with_reducible refine (HBL.out _).mono ?_); rintro e5 w5 ⟨rfl, hb5⟩; replace HPR := hide (HPR.out.kept hb5); replace HC := hide (HC.out.kept hb5); clear hb5 c0 z0 s0 c20; have c0 := HC.out.st; have c20 := HC.out.s; have s0 := (HX.out _ HPR.out.p.low).r)
                                | ((with_reducible refine wpList_store_xw (y := e.2) he8 ?_ ?_ HPR.out.s ?_); rfl; rfl; intro w6 hn hg; replace HC := hide (HC.out.other hg HGC.out.1); replace HPR := hide (HPR.out.puts hn hg); clear hn hg c0 s0 c20; (try clear z0); have c0 := HC.out.st; have c20 := HC.out.s; have s0 := (HX.out _ HPR.out.p.low).r)
                                | ((with_reducible refine wpList_store_xw (y := e.2) he8 ?_ ?_ HPR.out.f ?_); rfl; rfl; intro w7 hn hg; replace HC := hide (HC.out.other hg HGC.out.2); replace HPR := hide (HPR.out.putf hn hg); clear hn hg c0 s0 c20))
                              go_roundw
                              case rel =>
                                refine ⟨k + 1, by omega, by rw [HAT.out], by rw [HST.out, show (sl ++ [e]).length = cn + 1 by rw [List.length_append, HCN.out]; rfl]; go_num, by go_num, hide ?_⟩
                                have h := HPR.out
                                rw [HBT.out, HST.out]
                                rw [hsl0] at h ⊢
                                exact h
                              case measure => simp [intOf]; omega
                      · rw [hlt3] at HBL
                        replace HBT := hide (show (bestL 1 none (l.take (k + 1))).getD zeroCl = e.2 from by rw [HBT.out]; unfold bestF; rw [if_pos h1]; simp only; rw [hlt3]; rfl)
                        clear hlt3
                        by_cases ho : e.1 = owner
                        · skip
                          replace HST := hide (show sameL owner (l.take (k + 1)) = sl from by rw [HST.out]; simp [h1, ho])
                          have hob : (e.1 != owner) = false := by simpa using ho
                          clear ho h1
                          have c0 := HC.out.st
                          have c20 := HC.out.s
                          have z0 := HPR.out.s.st
                          have s0 := (HX.out _ HPR.out.p.low).r
                          rw [H1.out] at c0
                          rw [hb1] at z0
                          go_wp2_with (first
                            | ((with_reducible refine wpList_load_bal ?_ ?_ HPR.out.s.v ?_); rfl; rfl)
                            | ((with_reducible refine wpList_load_bal ?_ ?_ HC.out.v ?_); rfl; rfl)
                            | ((with_reducible refine wpList_load_ce he8 ?_ ?_ HC.out.all ?_); rfl; rfl)
                            | (go_at_call 45; (with_reducible refine (HBL.out _).mono ?_); rintro e5 w5 ⟨rfl, hb5⟩; replace HPR := hide (HPR.out.kept hb5); replace HC := hide (HC.out.kept hb5); clear hb5 c0 z0 s0 c20; have c0 := HC.out.st; have c20 := HC.out.s; have s0 := (HX.out _ HPR.out.p.low).r)
                            | ((with_reducible refine wpList_store_xw (y := e.2) he8 ?_ ?_ HPR.out.s ?_); rfl; rfl; intro w6 hn hg; replace HC := hide (HC.out.other hg HGC.out.1); replace HPR := hide (HPR.out.puts hn hg); clear hn hg c0 s0 c20; (try clear z0); have c0 := HC.out.st; have c20 := HC.out.s; have s0 := (HX.out _ HPR.out.p.low).r)
                            | ((with_reducible refine wpList_store_xw (y := e.2) he8 ?_ ?_ HPR.out.f ?_); rfl; rfl; intro w7 hn hg; replace HC := hide (HC.out.other hg HGC.out.2); replace HPR := hide (HPR.out.putf hn hg); clear hn hg c0 s0 c20))
                          go_roundw
                          case rel =>
                            refine ⟨k + 1, by omega, by rw [HAT.out], by rw [HST.out, HCN.out], by go_num, hide ?_⟩
                            have h := HPR.out
                            rw [HBT.out, HST.out]
                            exact h
                          case measure => simp [intOf]; omega
                        · cases hsm : e.2.s
                          · skip
                            replace HST := hide (show sameL owner (l.take (k + 1)) = sl from by rw [HST.out]; simp [h1, ho, hsm])
                            have hob : (e.1 != owner) = true := by simpa using ho
                            clear ho h1
                            have c0 := HC.out.st
                            have c20 := HC.out.s
                            have z0 := HPR.out.s.st
                            have s0 := (HX.out _ HPR.out.p.low).r
                            rw [H1.out] at c0
                            rw [hb1] at z0
                            rw [hsm] at c20
                            go_wp2_with (first
                              | ((with_reducible refine wpList_load_bal ?_ ?_ HPR.out.s.v ?_); rfl; rfl)
                              | ((with_reducible refine wpList_load_bal ?_ ?_ HC.out.v ?_); rfl; rfl)
                              | ((with_reducible refine wpList_load_ce he8 ?_ ?_ HC.out.all ?_); rfl; rfl)
                              | (go_at_call 45; (with_reducible refine (HBL.out _).mono ?_); rintro e5 w5 ⟨rfl, hb5⟩; replace HPR := hide (HPR.out.kept hb5); replace HC := hide (HC.out.kept hb5); clear hb5 c0 z0 s0 c20; have c0 := HC.out.st; have c20 := HC.out.s; have s0 := (HX.out _ HPR.out.p.low).r)
                              | ((with_reducible refine wpList_store_xw (y := e.2) he8 ?_ ?_ HPR.out.s ?_); rfl; rfl; intro w6 hn hg; replace HC := hide (HC.out.other hg HGC.out.1); replace HPR := hide (HPR.out.puts hn hg); clear hn hg c0 s0 c20; (try clear z0); have c0 := HC.out.st; have c20 := HC.out.s; have s0 := (HX.out _ HPR.out.p.low).r)
                              | ((with_reducible refine wpList_store_xw (y := e.2) he8 ?_ ?_ HPR.out.f ?_); rfl; rfl; intro w7 hn hg; replace HC := hide (HC.out.other hg HGC.out.2); replace HPR := hide (HPR.out.putf hn hg); clear hn hg c0 s0 c20))
                            go_roundw
                            case rel =>
                              refine ⟨k + 1, by omega, by rw [HAT.out], by rw [HST.out, HCN.out], by go_num, hide ?_⟩
                              have h := HPR.out
                              rw [HBT.out, HST.out]
                              exact h
                            case measure => simp [intOf]; omega
                          · cases hsl0 : sl
                            · skip
                              replace HST := hide (show sameL owner (l.take (k + 1)) = sl ++ [e] from by rw [HST.out]; simp [h1, ho, hsm])
                              have hcn0 : ((cn : Int) == 0) = true := by have := HCN.out; rw [hsl0] at this; subst this; rfl
                              have hob : (e.1 != owner) = true := by simpa using ho
                              clear ho h1
                              have c0 := HC.out.st
                              have c20 := HC.out.s
                              have z0 := HPR.out.s.st
                              have s0 := (HX.out _ HPR.out.p.low).r
                              rw [H1.out] at c0
                              rw [hb1] at z0
                              rw [hsm] at c20
                              go_wp2_with (first
                                | ((with_reducible refine wpList_load_bal ?_ ?_ HPR.out.s.v ?_); rfl; rfl)
                                | ((with_reducible refine wpList_load_bal ?_ ?_ HC.out.v ?_); rfl; rfl)
                                | ((with_reducible refine wpList_load_ce he8 ?_ ?_ HC.out.all ?_); rfl; rfl)
                                | (go_at_call 45; (with_reducible refine (HBL.out _).mono ?_); rintro e5 w5 ⟨rfl, hb5⟩; replace HPR := hide (HPR.out.kept hb5); replace HC := hide (HC.out.kept hb5); clear hb5 c0 z0 s0 c20; have c0 := HC.out.st; have c20 := HC.out.s; have s0 := (HX.out _ HPR.out.p.low).r)
                                | ((with_reducible refine wpList_store_xw (y := e.2) he8 ?_ ?_ HPR.out.s ?_); rfl; rfl; intro w6 hn hg; replace HC := hide (HC.out.other hg HGC.out.1); replace HPR := hide (HPR.out.puts hn hg); clear hn hg c0 s0 c20; (try clear z0); have c0 := HC.out.st; have c20 := HC.out.s; have s0 := (HX.out _ HPR.out.p.low).r)
                                | ((with_reducible refine wpList_store_xw (y := e.2) he8 ?_ ?_ HPR.out.f ?_); rfl; rfl; intro w7 hn hg; replace HC := hide (HC.out.other hg HGC.out.2); replace HPR := hide (HPR.out.putf hn hg); clear hn hg c0 s0 c20))
                              go_roundw
                              case rel =>
                                refine ⟨k + 1, by omega, by rw [HAT.out], by rw [HST.out, show (sl ++ [e]).length = cn + 1 by rw [List.length_append, HCN.out]; rfl]; go_num, by go_num, hide ?_⟩
                                have h := HPR.out
                                rw [HBT.out, HST.out]
                                rw [hsl0]
                                exact h
                              case measure => simp [intOf]; omega
                            · skip
                              replace HST := hide (show sameL owner (l.take (k + 1)) = sl ++ [e] from by rw [HST.out]; simp [h1, ho, hsm])
                              have hcn0 : ((cn : Int) == 0) = false := by have := HCN.out; rw [hsl0] at this; simp at this; simp; omega
                              have hob : (e.1 != owner) = true := by simpa using ho
                              clear ho h1
                              have c0 := HC.out.st
                              have c20 := HC.out.s
                              have z0 := HPR.out.s.st
                              have s0 := (HX.out _ HPR.out.p.low).r
                              rw [H1.out] at c0
                              rw [hb1] at z0
                              rw [hsm] at c20
                              go_wp2_with (first
                                | ((with_reducible refine wpList_load_bal ?_ ?_ HPR.out.s.v ?_); rfl; rfl)
                                | ((with_reducible refine wpList_load_bal ?_ ?_ HC.out.v ?_); rfl; rfl)
                                | ((with_reducible refine wpList_load_ce he8 ?_ ?_ HC.out.all ?_); rfl; rfl)
                                | (go_at_call 45; (with_reducible refine (HBL.out _).mono ?_); rintro e5 w5 ⟨rfl, hb5⟩; replace HPR := hide (HPR.out.kept hb5); replace HC := hide (HC.out.kept hb5); clear hb5 c0 z0 s0 c20; have c0 := HC.out.st; have c20 := HC.out.s; have s0 := (HX.out _ HPR.out.p.low).r)
                                | ((with_reducible refine wpList_store_xw (y := e.2) he8 ?_ ?_ HPR.out.s ?_); rfl; rfl; intro w6 hn hg; replace HC := hide (HC.out.other hg HGC.out.1); replace HPR := hide (HPR.out.puts hn hg); clear hn hg c0 s0 c20; (try clear z0); have c0 := HC.out.st; have c20 := HC.out.s; have s0 := (HX.out _ HPR.out.p.low).r)
                                | ((with_reducible refine wpList_store_xw (y := e.2) he8 ?_ ?_ HPR.out.f ?_); rfl; rfl; intro w7 hn hg; replace HC := hide (HC.out.other hg HGC.out.2); replace HPR := hide (HPR.out.putf hn hg); clear hn hg c0 s0 c20))
                              go_roundw
                              case rel =>
                                refine ⟨k + 1, by omega, by rw [HAT.out], by rw [HST.out, show (sl ++ [e]).length = cn + 1 by rw [List.length_append, HCN.out]; rfl]; go_num, by go_num, hide ?_⟩
                                have h := HPR.out
                                rw [HBT.out, HST.out]
                                rw [hsl0] at h ⊢
                                exact h
                              case measure => simp [intOf]; omega
                  · have h1b : (e.2.st != (1 : Int)) = true := by simpa using h1
                    have H1 := hide h1
                    clear h1
                    have c0 := HC.out.st
                    go_wp2
                    go_roundw
                    case rel =>
                      refine ⟨k + 1, by omega, by rw [HAT.out], by rw [HST.out, if_neg (by simp [H1.out]), List.append_nil, HCN.out], by go_num, hide ?_⟩
                      have h := HPR.out
                      rw [HBT.out, HST.out, if_neg (by simp [H1.out]), List.append_nil, show bestF 1 o e = o from if_neg H1.out]
                      exact h
                    case measure => simp [intOf]; omega
                · have hkmi : ¬ (k : Int) < (m : Int) := by omega
                  have hkk : k = m := by omega
                  have htk : l.take k = l := List.take_of_length_le (by rw [HM.out]; omega)
                  rw [htk] at HPR ⊢
                  have HAL : ∀ c, bestL 1 none l = some c → c.st = 1 ∧ c.a.length = 8 := fun c hc => by
                    rcases bestL_from hc with h | ⟨x, hx, hxc, hx1⟩
                    · cases h
                    · rw [← hxc]; exact ⟨hx1, HL.out.a8 x hx⟩
                  have hfa : ((sameL owner l).headD (0, zeroCl)).2.a.length = 8 := by
                    cases hsl : sameL owner l with
                    | nil => rfl
                    | cons x xs =>
                      have hx : x ∈ sameL owner l := by rw [hsl]; exact List.mem_cons_self
                      exact HL.out.a8 x (List.mem_filter.1 hx).1
                  have hcnl : (sameL owner l).length ≤ 1000 := Nat.le_trans (List.length_filter_le _ _) (by rw [HM.out]; exact h1000)
                  obtain ⟨nh, hnh⟩ : ∃ nh, n / 2 = nh := ⟨_, rfl⟩
                  rw [hnh] at HPL
                  have hnh2 : nh ≤ 1000 := by omega
                  have hni : (n : Int) / 2 = (nh : Int) := by omega
                  cases ho : bestL 1 none l with
                  | none =>
                    rw [ho] at HPL HPR
                    clear HAL ho hfa
                    have z0 := HPR.out.s.st
                    go_wp2_with (first
                      | ((with_reducible refine wpList_store_cm (y := zeroC) (z := zeroC) ?_ ?_ HPR.out.p.c ?_); rfl; rfl; intro w6 hn hg; have HP := hide (HPR.out.p.putc hn hg); clear hn hg)
                      | ((with_reducible refine wpList_store_at (y := zero8) (z := zero8) rfl ?_ ?_ HP.out.a rfl ?_); rfl; rfl; intro w6' hn hg; replace HP := hide (HP.out.puta hn hg); clear hn hg))
                    exact bodyPost_ret (results_prep Try.results29 rfl rfl HP.out.c rfl HP.out.a rfl) rfl ⟨by rw [← HPL.out]; rfl, HP.out.low⟩
                  | some b0 =>
                    obtain ⟨hb1, hb8⟩ := HAL b0 ho
                    rw [ho] at HPL HPR
                    replace HPR := hide (show Prr w wr b0 ((sameL owner l).headD (0, zeroCl)).2 g1 (g1 + 1) from HPR.out)
                    replace HPL := hide (show (if (l.all fun e => decide (e.1 ≠ owner)) && decide (nh ≤ (sameL owner l).length) then ((2 : Int), ((sameL owner l).headD (0, zeroCl)).2.c, ((sameL owner l).headD (0, zeroCl)).2.a) else (3, b0.c, b0.a)) = P from HPL.out)
                    clear HAL ho
                    generalize ((sameL owner l).headD (0, zeroCl)).2 = f0 at HPR HPL hfa
                    generalize (sameL owner l).length = cn at HPL hcnl ⊢
                    generalize (l.all fun e => decide (e.1 ≠ owner)) = AL at HPL ⊢
                    have z0 := HPR.out.s.st
                    rw [hb1] at z0
                    cases AL
                    · replace HPL := hide (show ((3 : Int), b0.c, b0.a) = P from HPL.out)
                      go_upto_region 34 with (fail)
                      clear z0
                      refine wp_region_noPanic ?_
                      refine wp_region_U 6 (fun wz => Below w.heap.size w wz ∧ CeAt wz (g1) 34 b0) (by kernel_rfl) ?_
                      replace HPR := hide HPR.out.drew
                      generalize wr.drew = wd at HPR ⊢
                      have HP := hide HPR.out.p
                      have HC := hide HPR.out.s
                      have HG := hide HPR.out.l1
                      have HD := hide (show Below w.heap.size w wd ∧ CeAt wd (g1) 34 b0 from ⟨HP.out.low, HC.out⟩)
                      clear HPR
                      refine anyU_take2 (i := 0) (v := .pointer (some ⟨g1, 5, none⟩)) (by simp only [List.getElem?_toArray, List.getElem?_cons_zero]; exact rfl) (by kernel_rfl) 12 (by kernel_rfl) (by kernel_rfl) (fun _ _ _ h => h) (by kernel_rfl) (by kernel_rfl) (by kernel_rfl) (by kernel_rfl) (Or.inl ⟨by rfl, fun w hSw => (by go_simp; try with_reducible rfl)⟩) (by with_reducible exact HD.out) ?_
                      try simp only [Act.put, List.setIfInBounds_toArray, List.set_cons_zero, List.set_cons_succ]
                      refine anyU_take2 (i := 1) (v := .agg (rowC b0.c)) (by simp only [List.getElem?_toArray, List.getElem?_cons_succ, List.getElem?_cons_zero]; exact rfl) (by kernel_rfl) 12 (by kernel_rfl) (by kernel_rfl) (fun _ _ _ h => h) (by kernel_rfl) (by kernel_rfl) (by kernel_rfl) (by kernel_rfl) (Or.inl ⟨by rfl, fun w hSw => exec_load_gp (cs := b0.c.l) rfl rfl hSw.2.c cm_under rfl cm_info⟩) (by with_reducible exact HD.out) ?_
                      try simp only [Act.put, List.setIfInBounds_toArray, List.set_cons_zero, List.set_cons_succ]
                      refine anyU_take2 (i := 2) (v := .pointer (some ⟨g1, 12, none⟩)) (by simp only [List.getElem?_toArray, List.getElem?_cons_succ, List.getElem?_cons_zero]; exact rfl) (by kernel_rfl) 12 (by kernel_rfl) (by kernel_rfl) (fun _ _ _ h => h) (by kernel_rfl) (by kernel_rfl) (by kernel_rfl) (by kernel_rfl) (Or.inl ⟨by rfl, fun w hSw => (by go_simp; try with_reducible rfl)⟩) (by with_reducible exact HD.out) ?_
                      try simp only [Act.put, List.setIfInBounds_toArray, List.set_cons_zero, List.set_cons_succ]
                      refine anyU_take2 (i := 3) (v := .agg (cA b0.a)) (by simp only [List.getElem?_toArray, List.getElem?_cons_succ, List.getElem?_cons_zero]; exact rfl) (by kernel_rfl) 12 (by kernel_rfl) (by kernel_rfl) (fun _ _ _ h => h) (by kernel_rfl) (by kernel_rfl) (by kernel_rfl) (by kernel_rfl) (Or.inl ⟨by rfl, fun w hSw => exec_load_gp rfl rfl hSw.2.a at_under rfl (at_sz hb8)⟩) (by with_reducible exact HD.out) ?_
                      try simp only [Act.put, List.setIfInBounds_toArray, List.set_cons_zero, List.set_cons_succ]
                      refine anyU_take2 (i := 4) (v := .int .i64 3) (by simp only [List.getElem?_toArray, List.getElem?_cons_succ, List.getElem?_cons_zero]; exact rfl) (by kernel_rfl) 12 (by kernel_rfl) (by kernel_rfl) (fun _ _ _ h => h) (by kernel_rfl) (by kernel_rfl) (by kernel_rfl) (by kernel_rfl) (Or.inl ⟨by rfl, fun w hSw => (by go_simp; try with_reducible rfl)⟩) (by with_reducible exact HD.out) ?_
                      try simp only [Act.put, List.setIfInBounds_toArray, List.set_cons_zero, List.set_cons_succ]
                      refine anyU_one (i := 5) (by kernel_rfl) (by simp only [List.getElem?_toArray, List.getElem?_cons_succ, List.getElem?_cons_zero]; exact rfl) (fun K hK => ?_)
                      rw [if_pos (by rfl)]
                      refine wp_store_cm rfl rfl rfl HP.out.c ?_
                      intro wp hn hg
                      replace HC := hide (HC.out.other hg (by have := HG.out; omega))
                      replace HP := hide (HP.out.putc hn hg)
                      replace HD := hide (show Below w.heap.size w wp ∧ CeAt wp (g1) 34 b0 from ⟨HP.out.low, HC.out⟩)
                      clear hn hg
                      refine hK.out _ _ (fun _ _ => HD.out) ?_
                      clear hK K
                      try simp only [Act.put]
                      refine anyU_one (i := 6) (by kernel_rfl) (by simp only [List.getElem?_toArray, List.getElem?_cons_succ, List.getElem?_cons_zero]; exact rfl) (fun K hK => ?_)
                      rw [if_pos (by rfl)]
                      refine wp_store_at rfl hb8 rfl rfl HP.out.a rfl ?_
                      intro wq hn hg
                      replace HP := hide (HP.out.puta hn hg)
                      clear hn hg
                      refine hK.out _ _ (fun e _ => absurd rfl e) ?_
                      clear hK K
                      try simp only [Act.put]
                      refine anyU_done (by kernel_rfl) ?_
                      refine NoPanic.normal ?_
                      try simp only [Act.put]
                      go_wp2
                      exact bodyPost_ret (results_prep Try.results29 rfl rfl HP.out.c rfl HP.out.a hb8) rfl ⟨by rw [← HPL.out]; rfl, HP.out.low⟩
                    · by_cases hc2 : nh ≤ cn
                      · have hc2i : (nh : Int) ≤ (cn : Int) := by omega
                        replace HPL := hide (show ((2 : Int), f0.c, f0.a) = P from by have h := HPL.out; rw [decide_eq_true hc2] at h; exact h)
                        clear hc2
                        go_upto_region 33 with (fail)
                        clear z0
                        refine wp_region_noPanic ?_
                        refine wp_region_U 6 (fun wz => Below w.heap.size w wz ∧ CeAt wz (g1 + 1) 34 f0) (by kernel_rfl) ?_
                        replace HPR := hide HPR.out.drew
                        generalize wr.drew = wd at HPR ⊢
                        have HP := hide HPR.out.p
                        have HC := hide HPR.out.f
                        have HG := hide HPR.out.l2
                        have HD := hide (show Below w.heap.size w wd ∧ CeAt wd (g1 + 1) 34 f0 from ⟨HP.out.low, HC.out⟩)
                        clear HPR
                        refine anyU_take2 (i := 0) (v := .pointer (some ⟨g1 + 1, 5, none⟩)) (by simp only [List.getElem?_toArray, List.getElem?_cons_zero]; exact rfl) (by kernel_rfl) 12 (by kernel_rfl) (by kernel_rfl) (fun _ _ _ h => h) (by kernel_rfl) (by kernel_rfl) (by kernel_rfl) (by kernel_rfl) (Or.inl ⟨by rfl, fun w hSw => (by go_simp; try with_reducible rfl)⟩) (by with_reducible exact HD.out) ?_
                        try simp only [Act.put, List.setIfInBounds_toArray, List.set_cons_zero, List.set_cons_succ]
                        refine anyU_take2 (i := 1) (v := .agg (rowC f0.c)) (by simp only [List.getElem?_toArray, List.getElem?_cons_succ, List.getElem?_cons_zero]; exact rfl) (by kernel_rfl) 12 (by kernel_rfl) (by kernel_rfl) (fun _ _ _ h => h) (by kernel_rfl) (by kernel_rfl) (by kernel_rfl) (by kernel_rfl) (Or.inl ⟨by rfl, fun w hSw => exec_load_gp (cs := f0.c.l) rfl rfl hSw.2.c cm_under rfl cm_info⟩) (by with_reducible exact HD.out) ?_
                        try simp only [Act.put, List.setIfInBounds_toArray, List.set_cons_zero, List.set_cons_succ]
                        refine anyU_take2 (i := 2) (v := .pointer (some ⟨g1 + 1, 12, none⟩)) (by simp only [List.getElem?_toArray, List.getElem?_cons_succ, List.getElem?_cons_zero]; exact rfl) (by kernel_rfl) 12 (by kernel_rfl) (by kernel_rfl) (fun _ _ _ h => h) (by kernel_rfl) (by kernel_rfl) (by kernel_rfl) (by kernel_rfl) (Or.inl ⟨by rfl, fun w hSw => (by go_simp; try with_reducible rfl)⟩) (by with_reducible exact HD.out) ?_
                        try simp only [Act.put, List.setIfInBounds_toArray, List.set_cons_zero, List.set_cons_succ]
                        refine anyU_take2 (i := 3) (v := .agg (cA f0.a)) (by simp only [List.getElem?_toArray, List.getElem?_cons_succ, List.getElem?_cons_zero]; exact rfl) (by kernel_rfl) 12 (by kernel_rfl) (by kernel_rfl) (fun _ _ _ h => h) (by kernel_rfl) (by kernel_rfl) (by kernel_rfl) (by kernel_rfl) (Or.inl ⟨by rfl, fun w hSw => exec_load_gp rfl rfl hSw.2.a at_under rfl (at_sz hfa)⟩) (by with_reducible exact HD.out) ?_
                        try simp only [Act.put, List.setIfInBounds_toArray, List.set_cons_zero, List.set_cons_succ]
                        refine anyU_take2 (i := 4) (v := .int .i64 2) (by simp only [List.getElem?_toArray, List.getElem?_cons_succ, List.getElem?_cons_zero]; exact rfl) (by kernel_rfl) 12 (by kernel_rfl) (by kernel_rfl) (fun _ _ _ h => h) (by kernel_rfl) (by kernel_rfl) (by kernel_rfl) (by kernel_rfl) (Or.inl ⟨by rfl, fun w hSw => (by go_simp; try with_reducible rfl)⟩) (by with_reducible exact HD.out) ?_
                        try simp only [Act.put, List.setIfInBounds_toArray, List.set_cons_zero, List.set_cons_succ]
                        refine anyU_one (i := 5) (by kernel_rfl) (by simp only [List.getElem?_toArray, List.getElem?_cons_succ, List.getElem?_cons_zero]; exact rfl) (fun K hK => ?_)
                        rw [if_pos (by rfl)]
                        refine wp_store_cm rfl rfl rfl HP.out.c ?_
                        intro wp hn hg
                        replace HC := hide (HC.out.other hg (by have := HG.out; omega))
                        replace HP := hide (HP.out.putc hn hg)
                        replace HD := hide (show Below w.heap.size w wp ∧ CeAt wp (g1 + 1) 34 f0 from ⟨HP.out.low, HC.out⟩)
                        clear hn hg
                        refine hK.out _ _ (fun _ _ => HD.out) ?_
                        clear hK K
                        try simp only [Act.put]
                        refine anyU_one (i := 6) (by kernel_rfl) (by simp only [List.getElem?_toArray, List.getElem?_cons_succ, List.getElem?_cons_zero]; exact rfl) (fun K hK => ?_)
                        rw [if_pos (by rfl)]
                        refine wp_store_at rfl hfa rfl rfl HP.out.a rfl ?_
                        intro wq hn hg
                        replace HP := hide (HP.out.puta hn hg)
                        clear hn hg
                        refine hK.out _ _ (fun e _ => absurd rfl e) ?_
                        clear hK K
                        try simp only [Act.put]
                        refine anyU_done (by kernel_rfl) ?_
                        refine NoPanic.normal ?_
                        try simp only [Act.put]
                        go_wp2
                        exact bodyPost_ret (results_prep Try.results29 rfl rfl HP.out.c rfl HP.out.a hfa) rfl ⟨by rw [← HPL.out]; rfl, HP.out.low⟩
                      · have hc2i : ¬ (nh : Int) ≤ (cn : Int) := by omega
                        replace HPL := hide (show ((3 : Int), b0.c, b0.a) = P from by have h := HPL.out; rw [decide_eq_false hc2] at h; exact h)
                        clear hc2
                        go_upto_region 34 with (fail)
                        clear z0
                        refine wp_region_noPanic ?_
                        refine wp_region_U 6 (fun wz => Below w.heap.size w wz ∧ CeAt wz (g1) 34 b0) (by kernel_rfl) ?_
                        replace HPR := hide HPR.out.drew
                        generalize wr.drew = wd at HPR ⊢
                        have HP := hide HPR.out.p
                        have HC := hide HPR.out.s
                        have HG := hide HPR.out.l1
                        have HD := hide (show Below w.heap.size w wd ∧ CeAt wd (g1) 34 b0 from ⟨HP.out.low, HC.out⟩)
                        clear HPR
                        refine anyU_take2 (i := 0) (v := .pointer (some ⟨g1, 5, none⟩)) (by simp only [List.getElem?_toArray, List.getElem?_cons_zero]; exact rfl) (by kernel_rfl) 12 (by kernel_rfl) (by kernel_rfl) (fun _ _ _ h => h) (by kernel_rfl) (by kernel_rfl) (by kernel_rfl) (by kernel_rfl) (Or.inl ⟨by rfl, fun w hSw => (by go_simp; try with_reducible rfl)⟩) (by with_reducible exact HD.out) ?_
                        try simp only [Act.put, List.setIfInBounds_toArray, List.set_cons_zero, List.set_cons_succ]
                        refine anyU_take2 (i := 1) (v := .agg (rowC b0.c)) (by simp only [List.getElem?_toArray, List.getElem?_cons_succ, List.getElem?_cons_zero]; exact rfl) (by kernel_rfl) 12 (by kernel_rfl) (by kernel_rfl) (fun _ _ _ h => h) (by kernel_rfl) (by kernel_rfl) (by kernel_rfl) (by kernel_rfl) (Or.inl ⟨by rfl, fun w hSw => exec_load_gp (cs := b0.c.l) rfl rfl hSw.2.c cm_under rfl cm_info⟩) (by with_reducible exact HD.out) ?_
                        try simp only [Act.put, List.setIfInBounds_toArray, List.set_cons_zero, List.set_cons_succ]
                        refine anyU_take2 (i := 2) (v := .pointer (some ⟨g1, 12, none⟩)) (by simp only [List.getElem?_toArray, List.getElem?_cons_succ, List.getElem?_cons_zero]; exact rfl) (by kernel_rfl) 12 (by kernel_rfl) (by kernel_rfl) (fun _ _ _ h => h) (by kernel_rfl) (by kernel_rfl) (by kernel_rfl) (by kernel_rfl) (Or.inl ⟨by rfl, fun w hSw => (by go_simp; try with_reducible rfl)⟩) (by with_reducible exact HD.out) ?_
                        try simp only [Act.put, List.setIfInBounds_toArray, List.set_cons_zero, List.set_cons_succ]
                        refine anyU_take2 (i := 3) (v := .agg (cA b0.a)) (by simp only [List.getElem?_toArray, List.getElem?_cons_succ, List.getElem?_cons_zero]; exact rfl) (by kernel_rfl) 12 (by kernel_rfl) (by kernel_rfl) (fun _ _ _ h => h) (by kernel_rfl) (by kernel_rfl) (by kernel_rfl) (by kernel_rfl) (Or.inl ⟨by rfl, fun w hSw => exec_load_gp rfl rfl hSw.2.a at_under rfl (at_sz hb8)⟩) (by with_reducible exact HD.out) ?_
                        try simp only [Act.put, List.setIfInBounds_toArray, List.set_cons_zero, List.set_cons_succ]
                        refine anyU_take2 (i := 4) (v := .int .i64 3) (by simp only [List.getElem?_toArray, List.getElem?_cons_succ, List.getElem?_cons_zero]; exact rfl) (by kernel_rfl) 12 (by kernel_rfl) (by kernel_rfl) (fun _ _ _ h => h) (by kernel_rfl) (by kernel_rfl) (by kernel_rfl) (by kernel_rfl) (Or.inl ⟨by rfl, fun w hSw => (by go_simp; try with_reducible rfl)⟩) (by with_reducible exact HD.out) ?_
                        try simp only [Act.put, List.setIfInBounds_toArray, List.set_cons_zero, List.set_cons_succ]
                        refine anyU_one (i := 5) (by kernel_rfl) (by simp only [List.getElem?_toArray, List.getElem?_cons_succ, List.getElem?_cons_zero]; exact rfl) (fun K hK => ?_)
                        rw [if_pos (by rfl)]
                        refine wp_store_cm rfl rfl rfl HP.out.c ?_
                        intro wp hn hg
                        replace HC := hide (HC.out.other hg (by have := HG.out; omega))
                        replace HP := hide (HP.out.putc hn hg)
                        replace HD := hide (show Below w.heap.size w wp ∧ CeAt wp (g1) 34 b0 from ⟨HP.out.low, HC.out⟩)
                        clear hn hg
                        refine hK.out _ _ (fun _ _ => HD.out) ?_
                        clear hK K
                        try simp only [Act.put]
                        refine anyU_one (i := 6) (by kernel_rfl) (by simp only [List.getElem?_toArray, List.getElem?_cons_succ, List.getElem?_cons_zero]; exact rfl) (fun K hK => ?_)
                        rw [if_pos (by rfl)]
                        refine wp_store_at rfl hb8 rfl rfl HP.out.a rfl ?_
                        intro wq hn hg
                        replace HP := hide (HP.out.puta hn hg)
                        clear hn hg
                        refine hK.out _ _ (fun e _ => absurd rfl e) ?_
                        clear hK K
                        try simp only [Act.put]
                        refine anyU_done (by kernel_rfl) ?_
                        refine NoPanic.normal ?_
                        try simp only [Act.put]
                        go_wp2
                        exact bodyPost_ret (results_prep Try.results29 rfl rfl HP.out.c rfl HP.out.a hb8) rfl ⟨by rw [← HPL.out]; rfl, HP.out.low⟩
            · rw [htk] at hb
              obtain ⟨q, off, hA, _⟩ := (HL.out.below HP.out.low).at_ hf
              subst hA
              have HY := hide (here_of HL.out hf rfl)
              have hf8 := HL.out.a8 f (List.mem_of_getElem? hf)
              have hjm : (j : Int) < (m : Int) := by omega
              have hj0 : (0 : Int) ≤ (j : Int) := by omega
              replace HPL := hide (show ((2 : Int), f.2.c, f.2.a) = P from by
                have h := HPL.out
                rw [hb] at h
                exact h)
              clear hb htk hkk HBI hf hjk
              go_upto_region 15 with (fail)
              refine wp_region_noPanic ?_
              refine wp_region_U 14 (fun wz => Below w.heap.size w wz) (by kernel_rfl) ?_
              replace HP := hide HP.out.drew
              generalize wr.drew = wd at HP ⊢
              have HD := hide HP.out.low
              refine anyU_take2 (i := 0) (v := .slice (some ⟨q, off, none⟩) m c) (by simp only [List.getElem?_toArray, List.getElem?_cons_zero]; exact rfl) (by kernel_rfl) 12 (by kernel_rfl) (by kernel_rfl) (fun _ _ _ h => h) (by kernel_rfl) (by kernel_rfl) (by kernel_rfl) (by kernel_rfl) (Or.inl ⟨by rfl, fun w hSw => (by go_simp; try with_reducible rfl)⟩) (by with_reducible exact HD.out) ?_
              try simp only [Act.put, List.setIfInBounds_toArray, List.set_cons_zero, List.set_cons_succ]
              refine anyU_take2 (i := 1) (v := .int .i64 (j : Nat)) (by simp only [List.getElem?_toArray, List.getElem?_cons_succ, List.getElem?_cons_zero]; exact rfl) (by kernel_rfl) 12 (by kernel_rfl) (by kernel_rfl) (fun _ _ _ h => h) (by kernel_rfl) (by kernel_rfl) (by kernel_rfl) (by kernel_rfl) (Or.inl ⟨by rfl, fun w hSw => (by go_simp; try with_reducible rfl)⟩) (by with_reducible exact HD.out) ?_
              try simp only [Act.put, List.setIfInBounds_toArray, List.set_cons_zero, List.set_cons_succ]
              refine anyU_take2 (i := 2) (v := .pointer (some ⟨q, off + j * 22, none⟩)) (by simp only [List.getElem?_toArray, List.getElem?_cons_succ, List.getElem?_cons_zero]; exact rfl) (by kernel_rfl) 12 (by kernel_rfl) (by kernel_rfl) (fun _ _ _ h => h) (by kernel_rfl) (by kernel_rfl) (by kernel_rfl) (by kernel_rfl) (Or.inl ⟨by rfl, fun w hSw => (by go_simp; try with_reducible rfl)⟩) (by with_reducible exact HD.out) ?_
              try simp only [Act.put, List.setIfInBounds_toArray, List.set_cons_zero, List.set_cons_succ]
              refine anyU_take2 (i := 3) (v := .pointer (some ⟨q, off + j * 22 + 1, none⟩)) (by simp only [List.getElem?_toArray, List.getElem?_cons_succ, List.getElem?_cons_zero]; exact rfl) (by kernel_rfl) 12 (by kernel_rfl) (by kernel_rfl) (fun _ _ _ h => h) (by kernel_rfl) (by kernel_rfl) (by kernel_rfl) (by kernel_rfl) (Or.inl ⟨by rfl, fun w hSw => (by go_simp; try with_reducible rfl)⟩) (by with_reducible exact HD.out) ?_
              try simp only [Act.put, List.setIfInBounds_toArray, List.set_cons_zero, List.set_cons_succ]
              refine anyU_take2 (i := 4) (v := .pointer (some ⟨q, off + j * 22 + 1 + 5, none⟩)) (by simp only [List.getElem?_toArray, List.getElem?_cons_succ, List.getElem?_cons_zero]; exact rfl) (by kernel_rfl) 12 (by kernel_rfl) (by kernel_rfl) (fun _ _ _ h => h) (by kernel_rfl) (by kernel_rfl) (by kernel_rfl) (by kernel_rfl) (Or.inl ⟨by rfl, fun w hSw => (by go_simp; try with_reducible rfl)⟩) (by with_reducible exact HD.out) ?_
              try simp only [Act.put, List.setIfInBounds_toArray, List.set_cons_zero, List.set_cons_succ]
              refine anyU_take2 (i := 5) (v := .agg (rowC f.2.c)) (by simp only [List.getElem?_toArray, List.getElem?_cons_succ, List.getElem?_cons_zero]; exact rfl) (by kernel_rfl) 12 (by kernel_rfl) (by kernel_rfl) (fun _ _ _ h => h) (by kernel_rfl) (by kernel_rfl) (by kernel_rfl) (by kernel_rfl) (Or.inl ⟨by rfl, fun w hSw => exec_load_gp (cs := f.2.c.l) rfl rfl (HY.out _ hSw).cm cm_under rfl cm_info⟩) (by with_reducible exact HD.out) ?_
              try simp only [Act.put, List.setIfInBounds_toArray, List.set_cons_zero, List.set_cons_succ]
              refine anyU_take2 (i := 6) (v := .slice (some ⟨q, off, none⟩) m c) (by simp only [List.getElem?_toArray, List.getElem?_cons_succ, List.getElem?_cons_zero]; exact rfl) (by kernel_rfl) 12 (by kernel_rfl) (by kernel_rfl) (fun _ _ _ h => h) (by kernel_rfl) (by kernel_rfl) (by kernel_rfl) (by kernel_rfl) (Or.inl ⟨by rfl, fun w hSw => (by go_simp; try with_reducible rfl)⟩) (by with_reducible exact HD.out) ?_
              try simp only [Act.put, List.setIfInBounds_toArray, List.set_cons_zero, List.set_cons_succ]
              refine anyU_take2 (i := 7) (v := .int .i64 (j : Nat)) (by simp only [List.getElem?_toArray, List.getElem?_cons_succ, List.getElem?_cons_zero]; exact rfl) (by kernel_rfl) 12 (by kernel_rfl) (by kernel_rfl) (fun _ _ _ h => h) (by kernel_rfl) (by kernel_rfl) (by kernel_rfl) (by kernel_rfl) (Or.inl ⟨by rfl, fun w hSw => (by go_simp; try with_reducible rfl)⟩) (by with_reducible exact HD.out) ?_
              try simp only [Act.put, List.setIfInBounds_toArray, List.set_cons_zero, List.set_cons_succ]
              refine anyU_take2 (i := 8) (v := .pointer (some ⟨q, off + j * 22, none⟩)) (by simp only [List.getElem?_toArray, List.getElem?_cons_succ, List.getElem?_cons_zero]; exact rfl) (by kernel_rfl) 12 (by kernel_rfl) (by kernel_rfl) (fun _ _ _ h => h) (by kernel_rfl) (by kernel_rfl) (by kernel_rfl) (by kernel_rfl) (Or.inl ⟨by rfl, fun w hSw => (by go_simp; try with_reducible rfl)⟩) (by with_reducible exact HD.out) ?_
              try simp only [Act.put, List.setIfInBounds_toArray, List.set_cons_zero, List.set_cons_succ]
              refine anyU_take2 (i := 9) (v := .pointer (some ⟨q, off + j * 22 + 1, none⟩)) (by simp only [List.getElem?_toArray, List.getElem?_cons_succ, List.getElem?_cons_zero]; exact rfl) (by kernel_rfl) 12 (by kernel_rfl) (by kernel_rfl) (fun _ _ _ h => h) (by kernel_rfl) (by kernel_rfl) (by kernel_rfl) (by kernel_rfl) (Or.inl ⟨by rfl, fun w hSw => (by go_simp; try with_reducible rfl)⟩) (by with_reducible exact HD.out) ?_
              try simp only [Act.put, List.setIfInBounds_toArray, List.set_cons_zero, List.set_cons_succ]
              refine anyU_take2 (i := 10) (v := .pointer (some ⟨q, off + j * 22 + 1 + 12, none⟩)) (by simp only [List.getElem?_toArray, List.getElem?_cons_succ, List.getElem?_cons_zero]; exact rfl) (by kernel_rfl) 12 (by kernel_rfl) (by kernel_rfl) (fun _ _ _ h => h) (by kernel_rfl) (by kernel_rfl) (by kernel_rfl) (by kernel_rfl) (Or.inl ⟨by rfl, fun w hSw => (by go_simp; try with_reducible rfl)⟩) (by with_reducible exact HD.out) ?_
              try simp only [Act.put, List.setIfInBounds_toArray, List.set_cons_zero, List.set_cons_succ]
              refine anyU_take2 (i := 11) (v := .agg (cA f.2.a)) (by simp only [List.getElem?_toArray, List.getElem?_cons_succ, List.getElem?_cons_zero]; exact rfl) (by kernel_rfl) 12 (by kernel_rfl) (by kernel_rfl) (fun _ _ _ h => h) (by kernel_rfl) (by kernel_rfl) (by kernel_rfl) (by kernel_rfl) (Or.inl ⟨by rfl, fun w hSw => exec_load_gp rfl rfl (HY.out _ hSw).at at_under rfl (at_sz hf8)⟩) (by with_reducible exact HD.out) ?_
              try simp only [Act.put, List.setIfInBounds_toArray, List.set_cons_zero, List.set_cons_succ]
              refine anyU_take2 (i := 12) (v := .int .i64 2) (by simp only [List.getElem?_toArray, List.getElem?_cons_succ, List.getElem?_cons_zero]; exact rfl) (by kernel_rfl) 12 (by kernel_rfl) (by kernel_rfl) (fun _ _ _ h => h) (by kernel_rfl) (by kernel_rfl) (by kernel_rfl) (by kernel_rfl) (Or.inl ⟨by rfl, fun w hSw => (by go_simp; try with_reducible rfl)⟩) (by with_reducible exact HD.out) ?_
              try simp only [Act.put, List.setIfInBounds_toArray, List.set_cons_zero, List.set_cons_succ]
              refine anyU_one (i := 13) (by kernel_rfl) (by simp only [List.getElem?_toArray, List.getElem?_cons_succ, List.getElem?_cons_zero]; exact rfl) (fun K hK => ?_)
              rw [if_pos (by rfl)]
              refine wp_store_cm rfl rfl rfl HP.out.c ?_
              intro wp hn hg
              replace HP := hide (HP.out.putc hn hg)
              replace HD := hide (below_own HD.out hg HSZ.out)
              clear hn hg
              refine hK.out _ _ (fun _ _ => HD.out) ?_
              clear hK K
              try simp only [Act.put]
              refine anyU_one (i := 14) (by kernel_rfl) (by simp only [List.getElem?_toArray, List.getElem?_cons_succ, List.getElem?_cons_zero]; exact rfl) (fun K hK => ?_)
              rw [if_pos (by rfl)]
              refine wp_store_at rfl hf8 rfl rfl HP.out.a rfl ?_
              intro wq hn hg
              replace HP := hide (HP.out.puta hn hg)
              clear hn hg
              refine hK.out _ _ (fun e _ => absurd rfl e) ?_
              clear hK K
              try simp only [Act.put]
              refine anyU_done (by kernel_rfl) ?_
              refine NoPanic.normal ?_
              try simp only [Act.put]
              go_wp2
              exact bodyPost_ret (results_prep Try.results29 rfl rfl HP.out.c rfl HP.out.a hf8) rfl ⟨by rw [← HPL.out]; rfl, HP.out.low⟩
end Go.Proofs.Ytjkdccokiaejhaa
