/- What put comes to: a thing behind bytes. Conditions: the slice lies in memory, lengths have room. -/
import Derived.Test.YtmjnidgjehlniaaUse
import Derived.Test.YtmjnidgjehlniaaItems
namespace Go.Proofs.Ytmjnidgjehlniaa
open Go.RowKit
/-- A thing's bytes. -/
def itB (k n : Int) (s : ByteArray) (f : Bool) : List Int := if k = 1 ∨ k = 4 then num7 n else if k = 2 then text7 s else if k = 3 then flag7 f else []
theorem itB_len (k n : Int) (s : ByteArray) (f : Bool) : (itB k n s f).length ≤ 10 + s.size := by
  have h1 := (num7_len n).2
  have h2 := (num7_len (s.size : Int)).2
  have h3 := text7_len s
  unfold itB
  split
  · omega
  · split
    · omega
    · split
      · unfold flag7; simp; omega
      · simp
theorem Made.alloc {w w' : World} {o : Obj} {n : Nat} {zs : List Int} {e : Ending} (h : Made (w.alloc o) n zs e w') : Made w n zs e w' := by
  obtain ⟨A, c, he, hn, hl, hA, hb⟩ := h
  exact ⟨A, c, he, hn, hl, hA, kept_trans (kept_alloc (kept_refl w) o) hb⟩
section
variable {A : Option Addr} {n c : Nat} {zs : List Int} {w : World}
set_option maxHeartbeats 1000000 in
theorem put_num (k m : Int) (s : ByteArray) (f : Bool) (hk : k = 1 ∨ k = 4) (hn : zs.length = n) (hz : Lies w A zs) (hc : A = none → c = 0) (ln : n ≤ 140737488355310) (m0 : -9223372036854775808 ≤ m) (m1 : m ≤ 9223372036854775807) :
    Calls Try.prog 15 #[.slice A n c, .agg #[.int .i64 k, .int .i64 m, .string s, .bool f]] w (Made w (n + (num7 m).length) (zs ++ num7 m)) := by
  have hN := hide (num_use m hn (hz.alloc (.cells #[.int .i64 k, .int .i64 m, .string s, .bool f] 32)) hc ln m0 m1)
  have hk' : (k == 1) = true ∨ ((k == 1) = false ∧ (k == 4) = true) := by
    by_cases h : k = 1
    · exact .inl (by rw [h]; rfl)
    · exact .inr ⟨by rw [beq_eq_false_iff_ne]; exact h, by rw [hk.resolve_left h]; rfl⟩
  clear hn hz hc hk
  rcases hk' with t1 | ⟨t1, t2⟩
  all_goals
    go_enter Try.func15, Try.ntmps15
    go_wp2_with (first
      | (go_at_call 11; (with_reducible refine hN.out.mono ?_); rintro e w1 hm; obtain ⟨A1, c1, rfl, m1, m2, m3, m4⟩ := hm.alloc; have m2 := hide m2; have m3 := hide m3; have m4 := hide m4))
    go_ret
    exact ⟨_, _, rfl, m1, m2.out, m3.out, m4.out⟩
set_option maxHeartbeats 1000000 in
theorem put_text (m : Int) (s : ByteArray) (f : Bool) (hn : zs.length = n) (hz : Lies w A zs) (hc : A = none → c = 0) (ln : n + s.size ≤ 140737488355310) :
    Calls Try.prog 15 #[.slice A n c, .agg #[.int .i64 2, .int .i64 m, .string s, .bool f]] w (Made w (n + (text7 s).length) (zs ++ text7 s)) := by
  have hN := hide (text_use s hn (hz.alloc (.cells #[.int .i64 2, .int .i64 m, .string s, .bool f] 32)) hc ln)
  clear hn hz hc
  go_enter Try.func15, Try.ntmps15
  go_wp2_with (first
    | (go_at_call 12; (with_reducible refine hN.out.mono ?_); rintro e w1 hm; obtain ⟨A1, c1, rfl, m1, m2, m3, m4⟩ := hm.alloc; have m2 := hide m2; have m3 := hide m3; have m4 := hide m4))
  go_ret
  exact ⟨_, _, rfl, m1, m2.out, m3.out, m4.out⟩
set_option maxHeartbeats 1000000 in
theorem put_flag (m : Int) (s : ByteArray) (f : Bool) (hn : zs.length = n) (hz : Lies w A zs) (hc : A = none → c = 0) (ln : n ≤ 140737488355310) :
    Calls Try.prog 15 #[.slice A n c, .agg #[.int .i64 3, .int .i64 m, .string s, .bool f]] w (Made w (n + 1) (zs ++ flag7 f)) := by
  have hN := hide (flag_use f hn (hz.alloc (.cells #[.int .i64 3, .int .i64 m, .string s, .bool f] 32)) hc ln)
  clear hn hz hc
  go_enter Try.func15, Try.ntmps15
  go_wp2_with (first
    | (go_at_call 35; (with_reducible refine hN.out.mono ?_); rintro e w1 hm; obtain ⟨A1, c1, rfl, m1, m2, m3, m4⟩ := hm.alloc; have m2 := hide m2; have m3 := hide m3; have m4 := hide m4))
  go_ret
  exact ⟨_, _, rfl, m1, m2.out, m3.out, m4.out⟩
set_option maxHeartbeats 1000000 in
theorem put_none (k m : Int) (s : ByteArray) (f : Bool) (h1 : k ≠ 1) (h2 : k ≠ 2) (h3 : k ≠ 3) (h4 : k ≠ 4) (hn : zs.length = n) (hz : Lies w A zs) (hc : A = none → c = 0) (ln : n ≤ 140737488355310) :
    Calls Try.prog 15 #[.slice A n c, .agg #[.int .i64 k, .int .i64 m, .string s, .bool f]] w (Made w n zs) := by
  subst hn
  obtain ⟨i0, hi, hz0, hz1, hz2⟩ := info_parts Try.info5
  have hown0 := World.ownsRow_lit (base := w.heap.size) (e := 5) (size := 1) (w.alloc (.cells #[.int .i64 k, .int .i64 m, .string s, .bool f] 32)) #[] 0 (by simp) (by unfold maxLen; omega) rfl
  rw [show (w.alloc (.cells #[.int .i64 k, .int .i64 m, .string s, .bool f] 32)).heap.size = w.heap.size + 1 by simp] at hown0
  have hz' := hide ((hz.alloc (.cells #[.int .i64 k, .int .i64 m, .string s, .bool f] 32)).alloc (.cells #[] 5))
  have hc' := hide hc
  have t1 : (k == 1) = false := by rw [beq_eq_false_iff_ne]; exact h1
  have t2 : (k == 2) = false := by rw [beq_eq_false_iff_ne]; exact h2
  have t3 : (k == 3) = false := by rw [beq_eq_false_iff_ne]; exact h3
  have t4 : (k == 4) = false := by rw [beq_eq_false_iff_ne]; exact h4
  clear hz hc h1 h2 h3 h4
  go_enter Try.func15, Try.ntmps15
  go_wp2_with (first
    | (at_builtin; refine wpList_append_lies rfl (.tmp 26) (.tmp 27) 23 rfl w.heap.size 5 i0 _ Try.underlying23 hi hz0 hz1 hz2 rfl _ 0 [] rfl hown0 A zs.length c zs rfl rfl hc'.out hz'.out (by omega) (by simp; omega) ?_; intro v1 w1 hown1 hb1; simp only [Nat.zero_add, List.nil_append] at hown1; have hb1' : Below w.heap.size w w1 := (((Below.refl _ _).alloc (Nat.le_refl _) _).alloc (by simp) _).trans hb1; clear hb1 hown0 hz'))
  have hmd := made_of (e := .returned v1) ⟨v1, rfl, hown1, hb1'⟩
  obtain ⟨A1, c1, he, m1, m2, m3, m4⟩ := hmd
  injection he with he
  subst he
  go_ret
  exact ⟨_, _, rfl, m1, m2, m3, m4⟩
theorem put_use (k m : Int) (s : ByteArray) (f : Bool) (hn : zs.length = n) (hz : Lies w A zs) (hc : A = none → c = 0) (ln : n + s.size ≤ 140737488355310) (m0 : -9223372036854775808 ≤ m) (m1 : m ≤ 9223372036854775807) :
    Calls Try.prog 15 #[.slice A n c, .agg #[.int .i64 k, .int .i64 m, .string s, .bool f]] w (Made w (n + (itB k m s f).length) (zs ++ itB k m s f)) := by
  unfold itB
  by_cases h1 : k = 1 ∨ k = 4
  · rw [if_pos h1]; exact put_num k m s f h1 hn hz hc (by omega) m0 m1
  rw [if_neg h1]
  by_cases h2 : k = 2
  · rw [if_pos h2]; subst h2; exact put_text m s f hn hz hc ln
  rw [if_neg h2]
  by_cases h3 : k = 3
  · rw [if_pos h3]; subst h3; exact put_flag m s f hn hz hc (by omega)
  rw [if_neg h3, List.append_nil]
  exact put_none k m s f (fun h => h1 (.inl h)) h2 h3 (fun h => h1 (.inr h)) hn hz hc (by omega)
end
end Go.Proofs.Ytmjnidgjehlniaa
