/- What the document's Frame comes to. Conditions: the slices lie in memory and hold bytes, their lengths have room. -/
import Derived.Test.YtdmfblobmahfbaaFput
import Derived.Test.YtdmfblobmahfbaaOwn
namespace Go.Proofs.Ytdmfblobmahfbaa
open Go.RowKit
theorem rput2 (u : Int) (w : World) : Calls Try.prog 26 #[.slice none 0 0, .int .i64 2, .int .u64 u] w fun e w' => ∃ k, k = 2 ∧ Cloned w k (putL u 2) e w' :=
  (rput_any none 0 0 [] 2 u w rfl Lies.none_ (fun _ => rfl) (by omega)).mono fun _ _ ⟨v, he, ho, hb⟩ => by
    obtain ⟨A', c', rfl, _⟩ := own_shape ho
    exact ⟨2, rfl, A', c', he, ho, hb⟩
theorem rput4 (A : Option Addr) (n c : Nat) (zs : List Int) (u : Int) (w : World) (hn : zs.length = n) (hz : Lies w A zs) (hc : A = none → c = 0) (ln : n ≤ 199999999999990) :
    Calls Try.prog 26 #[.slice A n c, .int .i64 4, .int .u64 u] w (Cloned w (n + 4) (zs ++ putL u 4)) :=
  (rput_any A n c zs 4 u w hn hz hc ln).mono fun _ _ ⟨v, he, ho, hb⟩ => by
    obtain ⟨A', c', rfl, _⟩ := own_shape ho
    exact ⟨A', c', he, ho, hb⟩
theorem sum_parts (xs ys : List Int) : crc (crc 0 (nats xs)) (nats ys) = crc 0 (nats (xs ++ ys)) := by
  rw [crc_append]; unfold nats; rw [List.map_append]
set_option maxHeartbeats 1000000 in
theorem rframe_any (A : Option Addr) (n c : Nat) (zs : List Int) (B : Option Addr) (m d : Nat) (ps : List Int) (w : World) (hn : zs.length = n) (hz : Lies w A zs) (hc : A = none → c = 0) (ln : n ≤ 140737488351232) (lnm : n + m ≤ 140737488355300)
    (hm : ps.length = m) (hp : Lies w B ps) (hd : B = none → d = 0) (op : Octets ps) :
    Calls Try.prog 15 #[.slice A n c, .slice B m d] w (Cloned w (putF zs ps).length (putF zs ps)) := by
  obtain ⟨i0, hi, hz0, hz1, hz2⟩ := info_parts Try.info5
  have hown0 := World.ownsRow_lit (base := w.heap.size) (e := 5) (size := 1) w #[] 0 (Nat.le_refl _) (by unfold maxLen; omega) rfl
  have hz' := hide (hz.alloc (.cells #[] 5))
  by_cases hM : May m
  · have l0 := hM.1
    have l1 := hM.2
    have e1 : putF zs ps = zs ++ frm ps := by unfold putF; rw [hm, if_pos hM]
    have e2 : (putF zs ps).length = n + 2 + m + 4 := by rw [e1, List.length_append, length_frm]; omega
    have hres := hide (show zs ++ body ps ++ putL (sumL (body ps)) 4 = putF zs ps by rw [e1]; unfold frm; rw [List.append_assoc])
    have hb := hide (show putL (m : Int) 2 ++ ps = body ps by unfold body; rw [hm])
    have hl3 := hide (show (zs ++ body ps).length = n + 2 + m by rw [List.length_append, length_body]; omega)
    have hs := sumL_bounds (octets_body op)
    have hsm := hide (show ((crc (crc 0 (nats (putL (m : Int) 2))) (nats ps) : Nat) : Int) = sumL (body ps) by rw [sum_parts, hb.out]; rfl)
    have h2 := hide (crc_lt (c := 0) (by omega) (bytes_nats (octets_putL (m : Int) 2)))
    have op := hide op
    rw [e2]
    have t1 : ((m : Int) == 0) = false := by rw [beq_eq_false_iff_ne]; omega
    have t2 : decide ((16384 : Int) < (m : Int)) = false := decide_eq_false (by omega)
    have H := hide (And.intro hp hd)
    have hc := hide hc
    clear hz hp hM e1 e2 hd
    go_enter Try.func15, Try.ntmps15
    go_wp2_with (at_builtin; refine wpList_append_lies rfl (.tmp 7) (.tmp 8) 22 rfl w.heap.size 5 i0 _ Try.underlying22 hi hz0 hz1 hz2 rfl _ 0 [] rfl hown0 A n c zs rfl hn hc.out hz'.out (by omega) (by simp) ?_)
    intro v1 w1 o1 k1
    have o1' := hide o1
    have k1' := hide (((Below.refl w.heap.size w).alloc (Nat.le_refl _) _).trans k1)
    clear o1 k1 hown0 hz'
    go_wp2_with (first
      | (go_at_call 26; (with_reducible refine (rput2 (m : Int) _).mono ?_); rintro e w2 ⟨k2, hk2', A2, c2, rfl, o2, q2⟩; have hk2 := hide hk2'; clear hk2'; have hne := hide (own_other o1'.out o2); have hlt := hide (own_lt o2); have o1b := hide (own_below o1'.out q2); have o2' := hide o2; have q2' := hide (k1'.out.trans (q2.mono k1'.out.size)); have hl2 := hide (Lies.of_own o2); clear o2 q2 o1' k1')
      | (at_builtin; refine wpList_append_grown rfl (.tmp 23) (.tmp 24) 22 rfl w.heap.size 5 i0 _ Try.underlying22 hi hz0 hz1 hz2 rfl _ n zs rfl o1b.out A2 k2 c2 (putL (m : Int) 2) rfl (by rw [hk2.out]; exact length_putL _ 2) (own_nil o2'.out) hl2.out (by have := hk2.out; omega) q2'.out.size ?_))
    intro v3 w3 o3 q3 at3
    have hne3 := hide (own_still hne.out hlt.out at3)
    have hlt3 := hide (fun a ha => Nat.lt_of_lt_of_le (hlt.out a ha) q3.size)
    have o3' := hide o3
    have hl3b := hide (hl2.out.grown q3 hne.out)
    have q3' := hide (q2'.out.grown q3 q2'.out.size (fun k hk => (o1b.out.lt k hk).1))
    have h2n := hide (own_nil o2'.out)
    clear o3 q3 at3 hl2 hne hlt o1b o2' q2'
    go_wp2_with (at_builtin; refine wpList_append_grown rfl (.tmp 25) (.tmp 26) 22 rfl w.heap.size 5 i0 _ Try.underlying22 hi hz0 hz1 hz2 rfl _ (n + k2) (zs ++ putL (m : Int) 2) rfl o3'.out B m d ps rfl hm H.out.2 (H.out.1.below (q3'.out.mono (Nat.le_refl _))) (by have := hk2.out; omega) q3'.out.size ?_)
    intro v4 w4 o4 q4 _
    rw [hb.out] at o4
    have hl4 := hide (hl3b.out.grown q4 hne3.out)
    have q4' := hide (q3'.out.grown q4 q3'.out.size (fun k hk => (o3'.out.lt k hk).1))
    have hB4 := hide (H.out.1.below q4'.out)
    obtain ⟨A4, c4, rfl, hA4⟩ := own_shape o4
    have hk2v := hk2.out
    have e4 : n + k2 + m = n + 2 + m := by omega
    rw [e4] at o4 ⊢
    have o4' := hide o4
    have hA4 := hide hA4
    have hof := hide (ron_zero A2 k2 c2 (putL (m : Int) 2) w4 (by rw [length_putL]; omega) hl4.out (octets_putL _ 2) (by omega))
    have hog := hide (ron_any B m d ps _ w4 h2.out hm hB4.out op.out (by omega))
    rw [hsm.out] at hog
    have hpu := hide (rput4 A4 (n + 2 + m) c4 (zs ++ body ps) (sumL (body ps)) w4 hl3.out (Lies.of_own o4'.out) hA4.out (by omega))
    clear o4 q4 hl3b q3' o3' hl4 hB4 hne3 hlt3 hk2v h2n hsm e4
    have h2' := h2.out
    clear h2
    generalize crc 0 (nats (putL (m : Int) 2)) = C at *
    generalize sumL (body ps) = sm at *
    go_wp2_with (first
      | (go_at_call 25; (with_reducible refine hof.out.mono ?_); rintro e w5 ⟨rfl, rfl⟩)
      | (go_at_call 25; (with_reducible refine hog.out.mono ?_); rintro e w5 ⟨rfl, rfl⟩)
      | (go_at_call 26; (with_reducible refine hpu.out.mono ?_); rintro e w5 ⟨A5, c5, rfl, o5, k5⟩; have o5' := hide o5; have k5' := hide k5; clear o5 k5))
    go_ret
    refine ⟨A5, c5, rfl, ?_, q4'.out.trans (k5'.out.mono q4'.out.size)⟩
    rw [← hres.out]
    exact own_mono o5'.out q4'.out.size
  · have e1 : putF zs ps = zs := by unfold putF; rw [hm, if_neg hM]
    rw [e1, hn]
    have hc := hide hc
    by_cases h0 : m = 0
    · subst h0
      clear hM e1 hz hp hd op
      go_enter Try.func15, Try.ntmps15
      go_wp2_with (at_builtin; refine wpList_append_lies rfl (.tmp 7) (.tmp 8) 22 rfl w.heap.size 5 i0 _ Try.underlying22 hi hz0 hz1 hz2 rfl _ 0 [] rfl hown0 A n c zs rfl hn hc.out hz'.out (by omega) (by simp) ?_)
      intro v1 w1 o1 k1
      obtain ⟨A1, c1, rfl, _⟩ := own_shape o1
      have o1' := hide o1
      have k1' := hide (((Below.refl w.heap.size w).alloc (Nat.le_refl _) _).trans k1)
      clear o1 k1 hown0 hz'
      go_wp2
      go_ret
      exact ⟨A1, c1, rfl, o1'.out, k1'.out⟩
    · have t1 : ((m : Int) == 0) = false := by rw [beq_eq_false_iff_ne]; omega
      have t2 : decide ((16384 : Int) < (m : Int)) = true := decide_eq_true (by unfold May at hM; omega)
      clear hM e1 hz hp hd op h0
      go_enter Try.func15, Try.ntmps15
      go_wp2_with (at_builtin; refine wpList_append_lies rfl (.tmp 7) (.tmp 8) 22 rfl w.heap.size 5 i0 _ Try.underlying22 hi hz0 hz1 hz2 rfl _ 0 [] rfl hown0 A n c zs rfl hn hc.out hz'.out (by omega) (by simp) ?_)
      intro v1 w1 o1 k1
      obtain ⟨A1, c1, rfl, _⟩ := own_shape o1
      have o1' := hide o1
      have k1' := hide (((Below.refl w.heap.size w).alloc (Nat.le_refl _) _).trans k1)
      clear o1 k1 hown0 hz'
      go_wp2
      go_ret
      exact ⟨A1, c1, rfl, o1'.out, k1'.out⟩
end Go.Proofs.Ytdmfblobmahfbaa
