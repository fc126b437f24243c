/- What packed and Put of package cmd come to: a command's bytes. Conditions: the slice lies in memory, its length has room. -/
import Derived.Test.YtigbplmfhnamkaaClash
import Derived.Test.YtigbplmfhnamkaaClas
import Derived.Test.YtigbplmfhnamkaaCat
import Derived.Deep.Onto
namespace Go.Proofs.Ytigbplmfhnamkaa
open Go.RowKit
/-- What a kind adds. -/
def tailC (x : Cm) : List Int := if x.k = 2 then text7 x.val else if x.k = 4 then text7 x.old ++ text7 x.val else if x.k = 5 then text7 x.en else []
/-- A command's bytes. -/
def bytesC (x : Cm) : List Int := if x.k = 0 then num7 0 else num7 x.k ++ num7 x.c ++ num7 x.q ++ text7 x.key ++ tailC x
def packC (x : Cm) : List Int := if rightC x then bytesC x else []
theorem right_kind {x : Cm} (h : rightC x = true) (h0 : x.k ≠ 0) : x = namedC x ∧ boundC x = true ∧ 1 ≤ x.k ∧ x.k ≤ 5 := by
  unfold rightC at h
  rw [if_neg h0, Bool.and_eq_true, sameC_iff] at h
  refine ⟨h.1, h.2, ?_⟩
  by_cases h5 : 1 ≤ x.k ∧ x.k ≤ 5
  · exact h5
  · have e : namedC x = zeroC := by
      unfold namedC
      rw [if_neg (by omega), if_neg (by omega), if_neg (by omega), if_neg (by omega)]
    rw [e] at h
    exact absurd (congrArg Cm.k h.1) h0
theorem right_zero {x : Cm} (h : rightC x = true) (h0 : x.k = 0) : x = zeroC := by
  unfold rightC at h
  rw [if_pos h0, sameC_iff] at h
  exact h
theorem bound_says {x : Cm} (h : boundC x = true) : 1 ≤ x.c ∧ x.c ≤ 8 ∧ 1 ≤ x.q ∧ x.q ≤ 1099511627776 ∧ x.key.size ≤ 16 ∧ x.en.size ≤ 16 ∧ x.old.size ≤ 64 ∧ x.val.size ≤ 64 := by
  unfold boundC at h
  simp only [Bool.and_eq_true, decide_eq_true_eq] at h
  omega
/-- A command boxed, and a slice of the call's own. -/
structure Pk (W w : World) (x : Cm) (A : Option Addr) (n c : Nat) (zs : List Int) : Prop where
  b : Boxed W w x
  l : Lies w A zs
  len : zs.length = n
  cap : n ≤ c
  nil : A = none → c = 0
section
variable {W w : World} {x : Cm} {A : Option Addr} {n c : Nat} {zs : List Int}
theorem Pk.drew (p : Pk W w x A n c zs) : Pk W w.drew x A n c zs := ⟨p.b.drew, p.l.drew, p.len, p.cap, p.nil⟩
theorem Pk.num (p : Pk W w x A n c zs) (m : Int) {ys : List Int} {n' : Nat} (hy : zs ++ num7 m = ys) (hl : ys.length = n') (ln : n ≤ 1000) (m0 : -9223372036854775808 ≤ m) (m1 : m ≤ 9223372036854775807) :
    Calls Try.prog 43 #[.slice A n c, .int .i64 m] w fun e w' => ∃ A' c', e = .returned (.slice A' n' c') ∧ Cells7 w' W.heap.size x ∧ Pk W w' x A' n' c' ys := by
  subst hy
  have e : n + (num7 m).length = n' := by rw [← hl, List.length_append, p.len]
  subst e
  exact (num_use m p.len p.l p.nil (by omega) m0 m1).mono fun _ _ ⟨A', c', he, hc, hL, hA, hb⟩ => have g := p.b.step hb; ⟨A', c', he, g.c.cells, g, hL, hl, hc, hA⟩
theorem Pk.text (p : Pk W w x A n c zs) (s : ByteArray) {ys : List Int} {n' : Nat} (hy : zs ++ text7 s = ys) (hl : ys.length = n') (ln : n ≤ 1000) (hs : s.size ≤ 64) :
    Calls Try.prog 44 #[.slice A n c, .string s] w fun e w' => ∃ A' c', e = .returned (.slice A' n' c') ∧ Cells7 w' W.heap.size x ∧ Pk W w' x A' n' c' ys := by
  subst hy
  have e : n + (text7 s).length = n' := by rw [← hl, List.length_append, p.len]
  subst e
  exact (text_use s p.len p.l p.nil (by omega)).mono fun _ _ ⟨A', c', he, hc, hL, hA, hb⟩ => have g := p.b.step hb; ⟨A', c', he, g.c.cells, g, hL, hl, hc, hA⟩
theorem Pk.made (p : Pk W w x A n c zs) {n' : Nat} {ys : List Int} (hy : zs = ys) (hn : n = n') : Made W n' ys (.returned (.slice A n c)) w := by
  subst hy hn; exact ⟨A, c, rfl, p.cap, p.l, p.nil, p.b.old⟩
end
theorem len7 (n : Int) : (num7 n).length ≤ 10 := (num7_len n).2
theorem lent (s : ByteArray) (h : s.size ≤ 64) : (text7 s).length ≤ 74 := by rw [text7_len]; have := len7 (s.size : Int); omega
set_option maxRecDepth 100000 in
set_option maxHeartbeats 8000000 in
theorem packed_any (k c q : Int) (a b o v : ByteArray) (w : World) :
    Calls Try.prog 29 #[.agg #[.int .i64 k, .int .i64 c, .int .i64 q, .string a, .string b, .string o, .string v]] w (Made w (packC ⟨k, c, q, a, b, o, v⟩).length (packC ⟨k, c, q, a, b, o, v⟩)) := by
  have hR := fun w1 => right_any k c q a b o v w1
  have st : Boxed w (w.alloc (.cells #[.int .i64 k, .int .i64 c, .int .i64 q, .string a, .string b, .string o, .string v] 23)) ⟨k, c, q, a, b, o, v⟩ := Boxed.start w ⟨k, c, q, a, b, o, v⟩ 23
  have ST := hide st
  clear st
  cases hr : rightC ⟨k, c, q, a, b, o, v⟩
  · have hp : packC ⟨k, c, q, a, b, o, v⟩ = [] := by unfold packC; rw [hr]; rfl
    rw [hr] at hR
    have HR := hide hR
    rw [hp]
    clear hR hp hr
    go_enter Try.func29, Try.ntmps29
    go_wp2_with (go_at_call 15; (with_reducible refine (ST.out.call (HR.out _)).mono ?_); rintro e w1 ⟨rfl, q0, q1, q2, q3, q4, q5, q6, st1⟩)
    go_ret
    exact ⟨none, 0, rfl, by simp, Lies.none_, fun _ => rfl, st1.old⟩
  · have hp : packC ⟨k, c, q, a, b, o, v⟩ = bytesC ⟨k, c, q, a, b, o, v⟩ := by unfold packC; rw [hr]; rfl
    have hr' := hr
    rw [hr] at hR
    have HR := hide hR
    rw [hp]
    clear hR hp hr
    by_cases h0 : k = 0
    · subst h0
      have hz1 := hide (show [] ++ num7 0 = num7 0 from rfl)
      obtain ⟨n1, hn1⟩ : ∃ n, (num7 0).length = n := ⟨_, rfl⟩
      have hn1 := hide hn1
      have e : bytesC ⟨0, c, q, a, b, o, v⟩ = num7 0 := rfl
      rw [e, hn1.out]
      clear hr' e
      go_enter Try.func29, Try.ntmps29
      go_wp2_with (first
        | (go_at_call 15; (with_reducible refine (ST.out.call (HR.out _)).mono ?_); rintro e w1 ⟨rfl, q0, q1, q2, q3, q4, q5, q6, st1⟩; simp only at q0 q1 q2 q3 q4 q5 q6; have P0 := hide (show Pk w w1 _ none 0 0 [] from ⟨st1, Lies.none_, rfl, Nat.le_refl _, fun _ => rfl⟩); clear st1)
        | (go_at_call 43; (with_reducible refine (Pk.num P0.out 0 hz1.out hn1.out (by omega) (by omega) (by omega)).mono ?_); rintro e w2 ⟨A1, c1, rfl, ⟨q0, q1, q2, q3, q4, q5, q6⟩, p⟩; simp only at q0 q1 q2 q3 q4 q5 q6; have P1 := hide p; clear p))
      go_ret
      exact P1.out.made rfl rfl
    · obtain ⟨_, hb, k1, k2⟩ := right_kind hr' h0
      obtain ⟨bc1, bc2, bq1, bq2, ba, bb, bo, bv⟩ := bound_says hb
      simp only at k1 k2 bc1 bc2 bq1 bq2 ba bb bo bv
      have t0 : (k == 0) = false := by rw [beq_eq_false_iff_ne]; exact h0
      clear hr' hb h0
      have hx : bytesC ⟨k, c, q, a, b, o, v⟩ = num7 k ++ num7 c ++ num7 q ++ text7 a ++ tailC ⟨k, c, q, a, b, o, v⟩ := by unfold bytesC; rw [if_neg (by simp only; omega)]
      obtain ⟨z1, hz1⟩ : ∃ z, [] ++ num7 k = z := ⟨_, rfl⟩
      obtain ⟨z2, hz2⟩ : ∃ z, z1 ++ num7 c = z := ⟨_, rfl⟩
      obtain ⟨z3, hz3⟩ : ∃ z, z2 ++ num7 q = z := ⟨_, rfl⟩
      obtain ⟨z4, hz4⟩ : ∃ z, z3 ++ text7 a = z := ⟨_, rfl⟩
      have hx' : bytesC ⟨k, c, q, a, b, o, v⟩ = z4 ++ tailC ⟨k, c, q, a, b, o, v⟩ := by rw [hx, ← hz4, ← hz3, ← hz2, ← hz1, List.nil_append]
      obtain ⟨n1, hn1⟩ : ∃ n, z1.length = n := ⟨_, rfl⟩
      obtain ⟨n2, hn2⟩ : ∃ n, z2.length = n := ⟨_, rfl⟩
      obtain ⟨n3, hn3⟩ : ∃ n, z3.length = n := ⟨_, rfl⟩
      obtain ⟨n4, hn4⟩ : ∃ n, z4.length = n := ⟨_, rfl⟩
      have l1 : n1 ≤ 10 := by rw [← hn1, ← hz1]; exact len7 k
      have l2 : n2 ≤ 20 := by rw [← hn2, ← hz2, List.length_append, hn1]; have := len7 c; omega
      have l3 : n3 ≤ 30 := by rw [← hn3, ← hz3, List.length_append, hn2]; have := len7 q; omega
      have l4 : n4 ≤ 104 := by rw [← hn4, ← hz4, List.length_append, hn3]; have := lent a (by omega); omega
      rw [hx']
      clear hx hx'
      have hz1 := hide hz1
      have hz2 := hide hz2
      have hz3 := hide hz3
      have hz4 := hide hz4
      have hn1 := hide hn1
      have hn2 := hide hn2
      have hn3 := hide hn3
      have hn4 := hide hn4
      obtain (rfl | rfl) | rfl | rfl | rfl : (k = 1 ∨ k = 3) ∨ k = 2 ∨ k = 4 ∨ k = 5 := by omega
      · have ht : tailC ⟨1, c, q, a, b, o, v⟩ = [] := rfl
        rw [ht, List.append_nil, hn4.out]
        go_enter Try.func29, Try.ntmps29
        go_wp2_with (first
        | (go_at_call 15; (with_reducible refine (ST.out.call (HR.out _)).mono ?_); rintro e w1 ⟨rfl, q0, q1, q2, q3, q4, q5, q6, st1⟩; simp only at q0 q1 q2 q3 q4 q5 q6; have P0 := hide (show Pk w w1 _ none 0 0 [] from ⟨st1, Lies.none_, rfl, Nat.le_refl _, fun _ => rfl⟩); clear st1)
        | (go_at_call 43; (with_reducible refine (Pk.num P0.out _ hz1.out hn1.out (by omega) (by omega) (by omega)).mono ?_); rintro e w2 ⟨A1, c1, rfl, ⟨q0, q1, q2, q3, q4, q5, q6⟩, p⟩; simp only at q0 q1 q2 q3 q4 q5 q6; have P1 := hide p; clear p)
        | (go_at_call 43; (with_reducible refine (Pk.num P1.out c hz2.out hn2.out (by omega) (by omega) (by omega)).mono ?_); rintro e w3 ⟨A2, c2, rfl, ⟨q0, q1, q2, q3, q4, q5, q6⟩, p⟩; simp only at q0 q1 q2 q3 q4 q5 q6; have P2 := hide p; clear p)
        | (go_at_call 43; (with_reducible refine (Pk.num P2.out q hz3.out hn3.out (by omega) (by omega) (by omega)).mono ?_); rintro e w4 ⟨A3, c3, rfl, ⟨q0, q1, q2, q3, q4, q5, q6⟩, p⟩; simp only at q0 q1 q2 q3 q4 q5 q6; have P3 := hide p; clear p)
        | (go_at_call 44; (with_reducible refine (Pk.text P3.out a hz4.out hn4.out (by omega) (by omega)).mono ?_); rintro e w5 ⟨A4, c4, rfl, ⟨q0, q1, q2, q3, q4, q5, q6⟩, p⟩; simp only at q0 q1 q2 q3 q4 q5 q6; have P4 := hide p; clear p))
        go_ret
        exact P4.out.made rfl rfl
      · have ht : tailC ⟨3, c, q, a, b, o, v⟩ = [] := rfl
        rw [ht, List.append_nil, hn4.out]
        go_enter Try.func29, Try.ntmps29
        go_wp2_with (first
        | (go_at_call 15; (with_reducible refine (ST.out.call (HR.out _)).mono ?_); rintro e w1 ⟨rfl, q0, q1, q2, q3, q4, q5, q6, st1⟩; simp only at q0 q1 q2 q3 q4 q5 q6; have P0 := hide (show Pk w w1 _ none 0 0 [] from ⟨st1, Lies.none_, rfl, Nat.le_refl _, fun _ => rfl⟩); clear st1)
        | (go_at_call 43; (with_reducible refine (Pk.num P0.out _ hz1.out hn1.out (by omega) (by omega) (by omega)).mono ?_); rintro e w2 ⟨A1, c1, rfl, ⟨q0, q1, q2, q3, q4, q5, q6⟩, p⟩; simp only at q0 q1 q2 q3 q4 q5 q6; have P1 := hide p; clear p)
        | (go_at_call 43; (with_reducible refine (Pk.num P1.out c hz2.out hn2.out (by omega) (by omega) (by omega)).mono ?_); rintro e w3 ⟨A2, c2, rfl, ⟨q0, q1, q2, q3, q4, q5, q6⟩, p⟩; simp only at q0 q1 q2 q3 q4 q5 q6; have P2 := hide p; clear p)
        | (go_at_call 43; (with_reducible refine (Pk.num P2.out q hz3.out hn3.out (by omega) (by omega) (by omega)).mono ?_); rintro e w4 ⟨A3, c3, rfl, ⟨q0, q1, q2, q3, q4, q5, q6⟩, p⟩; simp only at q0 q1 q2 q3 q4 q5 q6; have P3 := hide p; clear p)
        | (go_at_call 44; (with_reducible refine (Pk.text P3.out a hz4.out hn4.out (by omega) (by omega)).mono ?_); rintro e w5 ⟨A4, c4, rfl, ⟨q0, q1, q2, q3, q4, q5, q6⟩, p⟩; simp only at q0 q1 q2 q3 q4 q5 q6; have P4 := hide p; clear p))
        go_ret
        exact P4.out.made rfl rfl
      · have ht : tailC ⟨2, c, q, a, b, o, v⟩ = text7 v := rfl
        rw [ht]
        obtain ⟨z5, hz5⟩ : ∃ z, z4 ++ text7 v = z := ⟨_, rfl⟩
        obtain ⟨n5, hn5⟩ : ∃ n, z5.length = n := ⟨_, rfl⟩
        rw [hz5, hn5]
        have hz5 := hide hz5
        have hn5 := hide hn5
        go_enter Try.func29, Try.ntmps29
        go_wp2_with (first
        | (go_at_call 15; (with_reducible refine (ST.out.call (HR.out _)).mono ?_); rintro e w1 ⟨rfl, q0, q1, q2, q3, q4, q5, q6, st1⟩; simp only at q0 q1 q2 q3 q4 q5 q6; have P0 := hide (show Pk w w1 _ none 0 0 [] from ⟨st1, Lies.none_, rfl, Nat.le_refl _, fun _ => rfl⟩); clear st1)
        | (go_at_call 43; (with_reducible refine (Pk.num P0.out _ hz1.out hn1.out (by omega) (by omega) (by omega)).mono ?_); rintro e w2 ⟨A1, c1, rfl, ⟨q0, q1, q2, q3, q4, q5, q6⟩, p⟩; simp only at q0 q1 q2 q3 q4 q5 q6; have P1 := hide p; clear p)
        | (go_at_call 43; (with_reducible refine (Pk.num P1.out c hz2.out hn2.out (by omega) (by omega) (by omega)).mono ?_); rintro e w3 ⟨A2, c2, rfl, ⟨q0, q1, q2, q3, q4, q5, q6⟩, p⟩; simp only at q0 q1 q2 q3 q4 q5 q6; have P2 := hide p; clear p)
        | (go_at_call 43; (with_reducible refine (Pk.num P2.out q hz3.out hn3.out (by omega) (by omega) (by omega)).mono ?_); rintro e w4 ⟨A3, c3, rfl, ⟨q0, q1, q2, q3, q4, q5, q6⟩, p⟩; simp only at q0 q1 q2 q3 q4 q5 q6; have P3 := hide p; clear p)
        | (go_at_call 44; (with_reducible refine (Pk.text P3.out a hz4.out hn4.out (by omega) (by omega)).mono ?_); rintro e w5 ⟨A4, c4, rfl, ⟨q0, q1, q2, q3, q4, q5, q6⟩, p⟩; simp only at q0 q1 q2 q3 q4 q5 q6; have P4 := hide p; clear p)
        | (go_at_call 44; (with_reducible refine (Pk.text P4.out v hz5.out hn5.out (by omega) (by omega)).mono ?_); rintro e w6 ⟨A5, c5, rfl, ⟨q0, q1, q2, q3, q4, q5, q6⟩, p⟩; simp only at q0 q1 q2 q3 q4 q5 q6; have P5 := hide p; clear p))
        go_ret
        exact P5.out.made rfl rfl
      · have ht : tailC ⟨4, c, q, a, b, o, v⟩ = text7 o ++ text7 v := rfl
        rw [ht, ← List.append_assoc]
        obtain ⟨z5, hz5⟩ : ∃ z, z4 ++ text7 o = z := ⟨_, rfl⟩
        obtain ⟨n5, hn5⟩ : ∃ n, z5.length = n := ⟨_, rfl⟩
        rw [hz5]
        obtain ⟨z6, hz6⟩ : ∃ z, z5 ++ text7 v = z := ⟨_, rfl⟩
        obtain ⟨n6, hn6⟩ : ∃ n, z6.length = n := ⟨_, rfl⟩
        rw [hz6, hn6]
        have l5 : n5 ≤ 178 := by rw [← hn5, ← hz5, List.length_append, hn4.out]; have := lent o bo; omega
        have hz5 := hide hz5
        have hn5 := hide hn5
        have hz6 := hide hz6
        have hn6 := hide hn6
        go_enter Try.func29, Try.ntmps29
        go_upto_region 13 with (first
        | (go_at_call 15; (with_reducible refine (ST.out.call (HR.out _)).mono ?_); rintro e w1 ⟨rfl, q0, q1, q2, q3, q4, q5, q6, st1⟩; simp only at q0 q1 q2 q3 q4 q5 q6; have P0 := hide (show Pk w w1 _ none 0 0 [] from ⟨st1, Lies.none_, rfl, Nat.le_refl _, fun _ => rfl⟩); clear st1)
        | (go_at_call 43; (with_reducible refine (Pk.num P0.out _ hz1.out hn1.out (by omega) (by omega) (by omega)).mono ?_); rintro e w2 ⟨A1, c1, rfl, ⟨q0, q1, q2, q3, q4, q5, q6⟩, p⟩; simp only at q0 q1 q2 q3 q4 q5 q6; have P1 := hide p; clear p)
        | (go_at_call 43; (with_reducible refine (Pk.num P1.out c hz2.out hn2.out (by omega) (by omega) (by omega)).mono ?_); rintro e w3 ⟨A2, c2, rfl, ⟨q0, q1, q2, q3, q4, q5, q6⟩, p⟩; simp only at q0 q1 q2 q3 q4 q5 q6; have P2 := hide p; clear p)
        | (go_at_call 43; (with_reducible refine (Pk.num P2.out q hz3.out hn3.out (by omega) (by omega) (by omega)).mono ?_); rintro e w4 ⟨A3, c3, rfl, ⟨q0, q1, q2, q3, q4, q5, q6⟩, p⟩; simp only at q0 q1 q2 q3 q4 q5 q6; have P3 := hide p; clear p)
        | (go_at_call 44; (with_reducible refine (Pk.text P3.out a hz4.out hn4.out (by omega) (by omega)).mono ?_); rintro e w5 ⟨A4, c4, rfl, ⟨q0, q1, q2, q3, q4, q5, q6⟩, p⟩; simp only at q0 q1 q2 q3 q4 q5 q6; have P4 := hide p; clear p))
        have p4 := P4.out
        go_region_held3 (fun w' => w'.cell? ⟨w.heap.size, 5, none⟩ = some (.string o) ∧ w'.cell? ⟨w.heap.size, 6, none⟩ = some (.string v)) (go_keep)
          (first
        | (go_at_call 44; (with_reducible refine (Pk.text (W := w) (x := ⟨4, c, q, a, b, o, v⟩) (zs := z4) (n := n4) (by first | with_reducible assumption | with_reducible exact Pk.drew (by with_reducible assumption)) o hz5.out hn5.out (by omega) (by omega)).mono ?_); rintro e w5 ⟨A5, c5, rfl, ⟨q0, q1, q2, q3, q4, q5, q6⟩, p5⟩; simp only at q0 q1 q2 q3 q4 q5 q6)
        | (go_at_call 44; (with_reducible refine (Pk.text (W := w) (x := ⟨4, c, q, a, b, o, v⟩) (zs := z5) (n := n5) (by first | with_reducible assumption | with_reducible exact Pk.drew (by with_reducible assumption)) v hz6.out hn6.out (by omega) (by omega)).mono ?_); rintro e w6 ⟨A6, c6, rfl, ⟨q0, q1, q2, q3, q4, q5, q6⟩, p6⟩; simp only at q0 q1 q2 q3 q4 q5 q6))
        all_goals go_wp2
        all_goals go_ret
        all_goals exact Pk.made (by with_reducible assumption) rfl rfl
      · have ht : tailC ⟨5, c, q, a, b, o, v⟩ = text7 b := rfl
        rw [ht]
        obtain ⟨z5, hz5⟩ : ∃ z, z4 ++ text7 b = z := ⟨_, rfl⟩
        obtain ⟨n5, hn5⟩ : ∃ n, z5.length = n := ⟨_, rfl⟩
        rw [hz5, hn5]
        have hz5 := hide hz5
        have hn5 := hide hn5
        go_enter Try.func29, Try.ntmps29
        go_wp2_with (first
        | (go_at_call 15; (with_reducible refine (ST.out.call (HR.out _)).mono ?_); rintro e w1 ⟨rfl, q0, q1, q2, q3, q4, q5, q6, st1⟩; simp only at q0 q1 q2 q3 q4 q5 q6; have P0 := hide (show Pk w w1 _ none 0 0 [] from ⟨st1, Lies.none_, rfl, Nat.le_refl _, fun _ => rfl⟩); clear st1)
        | (go_at_call 43; (with_reducible refine (Pk.num P0.out _ hz1.out hn1.out (by omega) (by omega) (by omega)).mono ?_); rintro e w2 ⟨A1, c1, rfl, ⟨q0, q1, q2, q3, q4, q5, q6⟩, p⟩; simp only at q0 q1 q2 q3 q4 q5 q6; have P1 := hide p; clear p)
        | (go_at_call 43; (with_reducible refine (Pk.num P1.out c hz2.out hn2.out (by omega) (by omega) (by omega)).mono ?_); rintro e w3 ⟨A2, c2, rfl, ⟨q0, q1, q2, q3, q4, q5, q6⟩, p⟩; simp only at q0 q1 q2 q3 q4 q5 q6; have P2 := hide p; clear p)
        | (go_at_call 43; (with_reducible refine (Pk.num P2.out q hz3.out hn3.out (by omega) (by omega) (by omega)).mono ?_); rintro e w4 ⟨A3, c3, rfl, ⟨q0, q1, q2, q3, q4, q5, q6⟩, p⟩; simp only at q0 q1 q2 q3 q4 q5 q6; have P3 := hide p; clear p)
        | (go_at_call 44; (with_reducible refine (Pk.text P3.out a hz4.out hn4.out (by omega) (by omega)).mono ?_); rintro e w5 ⟨A4, c4, rfl, ⟨q0, q1, q2, q3, q4, q5, q6⟩, p⟩; simp only at q0 q1 q2 q3 q4 q5 q6; have P4 := hide p; clear p)
        | (go_at_call 44; (with_reducible refine (Pk.text P4.out b hz5.out hn5.out (by omega) (by omega)).mono ?_); rintro e w6 ⟨A5, c5, rfl, ⟨q0, q1, q2, q3, q4, q5, q6⟩, p⟩; simp only at q0 q1 q2 q3 q4 q5 q6; have P5 := hide p; clear p))
        go_ret
        exact P5.out.made rfl rfl
theorem packC_len (x : Cm) : (packC x).length ≤ 300 := by
  unfold packC
  cases hr : rightC x
  · simp
  · rw [if_pos rfl]
    unfold bytesC
    by_cases h0 : x.k = 0
    · rw [if_pos h0]; have := len7 0; omega
    · rw [if_neg h0]
      obtain ⟨_, hb, _⟩ := right_kind hr h0
      obtain ⟨_, _, _, _, ba, bb, bo, bv⟩ := bound_says hb
      have h1 := len7 x.k
      have h2 := len7 x.c
      have h3 := len7 x.q
      have h4 := lent x.key (by omega)
      have h5 := lent x.en (by omega)
      have h6 := lent x.old bo
      have h7 := lent x.val bv
      have ht : (tailC x).length ≤ 148 := by
        unfold tailC
        split
        · omega
        · split
          · rw [List.length_append]; omega
          · split
            · omega
            · simp
      simp only [List.length_append]
      omega
/-- Concat of two slices whose row was just laid. -/
theorem concat_lit {A B : Option Addr} {n c m d : Nat} {zs ys : List Int} {w : World} (t : TypeId) (hn : zs.length = n) (hm : ys.length = m) (hz : Lies w A zs) (hy : Lies w B ys) (hA : A = none → c = 0) (hB : B = none → d = 0) (ln : n + m ≤ 140737488355328) :
    Calls Try.prog 28 #[.slice (some ⟨w.heap.size, 0, none⟩) 2 2] (w.alloc (.cells #[.slice A n c, .slice B m d] t)) (MadeO w (n + m) (zs ++ ys)) :=
  (concat_own A B n c m d w.heap.size zs ys _ hn hm (hz.alloc _) (hy.alloc _) hA hB ln (by simp) (by simp [World.cell?_alloc_new]) (by simp [World.cell?_alloc_new])).mono
    fun _ _ ⟨v, he, ho, hb⟩ => ⟨v, he, ho.mono (by simp), kept_trans (kept_alloc (kept_refl w) _) hb⟩
set_option maxRecDepth 100000 in
set_option maxHeartbeats 2000000 in
theorem cput_own (A : Option Addr) (n cp : Nat) (zs : List Int) (k c q : Int) (a b o v : ByteArray) (w : World) (hn : zs.length = n) (hz : Lies w A zs) (hA : A = none → cp = 0) (ln : n ≤ 140737488355000) :
    Calls Try.prog 12 #[.slice A n cp, .agg #[.int .i64 k, .int .i64 c, .int .i64 q, .string a, .string b, .string o, .string v]] w (MadeO w (n + (packC ⟨k, c, q, a, b, o, v⟩).length) (zs ++ packC ⟨k, c, q, a, b, o, v⟩)) := by
  have hP := fun w1 => packed_any k c q a b o v w1
  have hl := packC_len ⟨k, c, q, a, b, o, v⟩
  generalize hys : packC ⟨k, c, q, a, b, o, v⟩ = ys at *
  have HP := hide hP
  have HZ := hide hz
  have HN := hide hn
  clear hP hz hn hys
  obtain ⟨m, hm⟩ : ∃ m, ys.length = m := ⟨_, rfl⟩
  rw [hm] at hl ⊢
  have HM := hide hm
  clear hm
  go_enter Try.func12, Try.ntmps12
  go_wp2_with (first
    | (go_at_call 29; (with_reducible refine (HP.out _).mono ?_); rintro e w1 ⟨B, d, rfl, hd, hL, hB, hb⟩; rw [HM.out] at hd ⊢; have HB := hide hb; have HL := hide hL; have HZ1 := hide ((HZ.out.alloc _).below hb); clear hb hL)
    | (go_at_call 28; (with_reducible refine (concat_lit _ HN.out HM.out HZ1.out HL.out hA hB (by omega)).mono ?_); rintro e w2 ⟨v2, rfl, ho2, hb2⟩))
  go_ret
  exact ⟨v2, rfl, ho2.mono (kept_trans (kept_alloc (kept_refl w) _) HB.out).size, kept_trans (kept_trans (kept_alloc (kept_refl w) _) HB.out) hb2⟩
theorem cput_any (A : Option Addr) (n cp : Nat) (zs : List Int) (k c q : Int) (a b o v : ByteArray) (w : World) (hn : zs.length = n) (hz : Lies w A zs) (hA : A = none → cp = 0) (ln : n ≤ 140737488355000) :
    Calls Try.prog 12 #[.slice A n cp, .agg #[.int .i64 k, .int .i64 c, .int .i64 q, .string a, .string b, .string o, .string v]] w (Made w (n + (packC ⟨k, c, q, a, b, o, v⟩).length) (zs ++ packC ⟨k, c, q, a, b, o, v⟩)) :=
  (cput_own A n cp zs k c q a b o v w hn hz hA ln).mono fun _ _ h => made_of h
end Go.Proofs.Ytigbplmfhnamkaa
