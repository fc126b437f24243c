/- What the document's digits, Segment and number come to. Conditions: numbers are from 1 on and below 100; the text has room. -/
import Derived.Test.YtkmcnhjfnjikaaaGreatDoorVrun
import Derived.Test.YtkmcnhjfnjikaaaGreatDoorKbot
namespace Go.Proofs.YtkmcnhjfnjikaaaGreatDoor
open Go.RowKit Go.Maps
theorem valP_one {s : ByteArray} (h1 : 1 ≤ s.size) (h0 : (s[0].toNat : Int) ≠ 48) (h : dAt s 0) : ∀ k, 1 ≤ k → k ≤ s.size → 1 ≤ valP s k
  | 0, hk, _ => by omega
  | 1, _, _ => by
    have := h (by omega)
    rw [valP_succ s (by omega)]
    omega
  | k + 2, _, hk => by
    have := valP_one h1 h0 h (k + 1) (by omega) (by omega)
    rw [valP_succ s (by omega)]
    omega
/-- Is a number not 0. -/
def nz (n : Nat) : Bool := decide (n ≠ 0)
set_option maxRecDepth 100000 in
set_option maxHeartbeats 1000000 in
theorem rnumber_any (s : ByteArray) (w : World) (hs : s.size ≤ 140737488351232) : Calls Tryz.prog 89 #[.string s] w fun e w' => e = .returned (.tuple #[.int .i64 (cntN s.data.toList : Nat), .bool (nz (cntN s.data.toList))]) ∧ w = w' := by
  by_cases h0 : s.size < 1
  · have hn := hide (cnt_len (.inl h0))
    obtain rfl : s = ⟨#[]⟩ := by
      apply ByteArray.ext
      apply Array.eq_empty_of_size_eq_zero
      show s.size = 0
      omega
    clear h0
    go_enter Tryz.func89, Tryz.ntmps89
    go_wp2
    go_ret2
    exact ⟨by rw [hn.out]; rfl, rfl⟩
  have he : (s.toList == []) = false := by
    cases hl : s.toList with
    | nil => exact absurd (by have := Lib.size_eq s; rw [ByteArray.toList_eq] at hl; rw [hl] at this; simpa using this) (show ¬ s.size = 0 by omega)
    | cons _ _ => rfl
  by_cases h1 : 9 < s.size
  · have hn := hide (cnt_len (.inr h1))
    go_enter Tryz.func89, Tryz.ntmps89
    go_wp2
    go_ret2
    exact ⟨by rw [hn.out]; rfl, rfl⟩
  have hpos : 0 < s.size := by omega
  by_cases h2 : (s[0].toNat : Int) = 48
  · have hn := hide (cnt_zero hpos h2)
    have h2' : ((s[0].toNat : Int) == 48) = true := by simpa using h2
    clear h2
    go_enter Tryz.func89, Tryz.ntmps89
    go_wp2
    go_ret2
    exact ⟨by rw [hn.out]; rfl, rfl⟩
  have h2' : ((s[0].toNat : Int) == 48) = false := by simpa using h2
  have H2 := hide h2
  clear h2
  go_enter Tryz.func89, Tryz.ntmps89
  go_wp2
  go_loop [4, 5] (fun n i => ∃ k : Nat, k ≤ s.size ∧ n = .int .i64 (valP s k : Nat) ∧ i = .int .i64 k ∧ Hid (∀ j, j < k → dAt s j)) (fun _ i => s.size - (intOf i).toNat)
  case atStart => exact ⟨0, by omega, rfl, rfl, fun j hj => absurd hj (by omega)⟩
  case round =>
    obtain ⟨k, hk, rfl, rfl, hs⟩ := hrel
    by_cases hlt : k < s.size
    · by_cases hc : dAt s k
      · have hc' := hc hlt
        have HC := hide hc
        have HS := hide (show ∀ j, j < k + 1 → dAt s j from fun j hj => by
          rcases Nat.lt_or_ge j k with h | h
          · exact hs.out j h
          · obtain rfl : j = k := by omega
            exact HC.out)
        obtain ⟨hc1, hc2⟩ := hc'
        have hV : valP s k < 1000000000 := Nat.lt_of_lt_of_le (valP_lt s k hk hs.out) (show 10 ^ k ≤ 10 ^ 9 from Nat.pow_le_pow_right (by omega) (by omega))
        have HQ := hide (valP_succ s hlt)
        have HR := hide (show ((valP s k : Nat) : Int) * 10 + ((s[k].toNat : Int) - 48) = ((valP s (k + 1) : Nat) : Int) by rw [HQ.out]; omega)
        clear hc HC hs HQ
        generalize hVe : valP s k = V at *
        clear hVe
        go_wp2
        go_round
        case rel => exact ⟨k + 1, by omega, by rw [← HR.out], by go_num, HS⟩
        case measure => simp [intOf]; omega
      · have hn := hide (cnt_bad hlt hc)
        have hc' : (s[k].toNat : Int) < 48 ∨ 57 < (s[k].toNat : Int) := by
          rcases Int.lt_or_le (s[k].toNat : Int) 48 with h | h
          · exact .inl h
          · right
            rcases Int.lt_or_le 57 (s[k].toNat : Int) with h2 | h2
            · exact h2
            · exact absurd (fun _ => ⟨h, h2⟩) hc
        clear hc hs
        rcases hc' with hc' | hc'
        · go_wp2
          go_ret2
          exact ⟨by rw [hn.out]; rfl, rfl⟩
        · go_wp2
          all_goals
            go_ret2
            exact ⟨by rw [hn.out]; rfl, rfl⟩
    · have hn := hide (cnt_ok (s := s) (by omega) (by omega) H2.out (fun j hj => hs.out j (by omega)))
      have hp1 := valP_one (s := s) (by omega) H2.out (hs.out 0 (by omega)) s.size (by omega) (Nat.le_refl _)
      have hfin := hide (show Ending.returned (.tuple #[.int .i64 (valP s s.size : Nat), .bool true]) = Ending.returned (.tuple #[.int .i64 (cntN s.data.toList : Nat), .bool (nz (cntN s.data.toList))]) by rw [hn.out, show nz (valP s s.size) = true from decide_eq_true (by omega)])
      obtain rfl : k = s.size := by omega
      go_wp2
      go_ret2
      exact ⟨hfin.out, rfl⟩
theorem seg_short {s : ByteArray} (h : s.size < 7) : segOf s = (0, 0) := by
  unfold segOf segL
  split
  · rename_i hp
    have hl := Lib.size_eq s
    dsimp only
    split
    · rfl
    · rename_i hc
      exfalso
      have h1 : 1 ≤ (cutA (s.data.toList.drop 4)).length := by
        rcases Nat.eq_zero_or_pos (cutA (s.data.toList.drop 4)).length with h0 | h0
        · rw [List.eq_nil_of_length_eq_zero h0] at hc
          exact absurd (.inl rfl) hc
        · exact h0
      have h2 : 1 ≤ (cutB (s.data.toList.drop 4)).length := by
        rcases Nat.eq_zero_or_pos (cutB (s.data.toList.drop 4)).length with h0 | h0
        · rw [List.eq_nil_of_length_eq_zero h0] at hc
          exact absurd (.inr rfl) hc
        · exact h0
      have h3 : ∀ l : List UInt8, 1 ≤ (cutB l).length → (cutA l).length + 1 + (cutB l).length ≤ l.length := by
        intro l
        induction l with
        | nil => intro h; simp [cutB] at h
        | cons c l ih =>
          intro h
          unfold cutB at h
          unfold cutA cutB
          by_cases e : c = 46
          · rw [if_pos e] at h; rw [if_pos e, if_pos e]; simp; omega
          · rw [if_neg e] at h; rw [if_neg e, if_neg e]; have := ih h; simp; omega
      have h4 := h3 _ h2
      rw [List.length_drop] at h4
      omega
  · rfl
theorem seg_other {s : ByteArray} (h : (s.extract 0 4).data.toList ≠ pre4) : segOf s = (0, 0) := by
  unfold segOf segL
  split
  · rename_i hp
    exfalso
    apply h
    rw [Lib.extract_eq]
    have : pre4 <+: s.data.toList := by unfold Lib.hasPrefix at hp; exact List.isPrefixOf_iff_prefix.1 hp
    obtain ⟨t, ht⟩ := this
    rw [← ht]
    rfl
  · rfl
theorem seg_pre {s : ByteArray} (h : (s.extract 0 4).data.toList = pre4) : segOf s = if cntN (cutA (s.data.toList.drop 4)) = 0 ∨ cntN (cutB (s.data.toList.drop 4)) = 0 then (0, 0) else (cntN (cutA (s.data.toList.drop 4)), cntN (cutB (s.data.toList.drop 4))) := by
  have hp : Lib.hasPrefix s.data.toList pre4 = true := by
    rw [Lib.extract_eq] at h
    unfold Lib.hasPrefix
    apply List.isPrefixOf_iff_prefix.2
    refine ⟨s.data.toList.drop 4, ?_⟩
    have h2 : (s.data.toList.drop 0).take (4 - 0) = pre4 := by simpa using h
    rw [← h2]
    simp
  unfold segOf segL
  rw [if_pos hp]
/-- What the document's named answers. -/
def RNamedP (w : World) (s : ByteArray) (e : Ending) (w' : World) : Prop := ∃ (g k : Nat), e = .returned (.tuple #[.int .i64 g, .int .i64 k, .bool (nz (segOf s).1)]) ∧ ((segOf s).1 ≠ 0 → segOf s = (g, k)) ∧ w = w'
end Go.Proofs.YtkmcnhjfnjikaaaGreatDoor
/- What the document's named comes to. Condition: the text has room. -/
namespace Go.Proofs.YtkmcnhjfnjikaaaGreatDoor
open Go.RowKit Go.Maps
theorem cutB_none : ∀ {l : List UInt8}, (∀ c, c ∈ l → c ≠ 46) → cutB l = []
  | [], _ => rfl
  | c :: l, h => by unfold cutB; rw [if_neg (h c List.mem_cons_self)]; exact cutB_none fun x hx => h x (List.mem_cons_of_mem _ hx)
theorem cut_at {l : List UInt8} {j : Nat} (h : ∀ k, k < j → ∀ c, l[k]? = some c → c ≠ 46) (hj : l[j]? = some 46) : cutA l = l.take j ∧ cutB l = l.drop (j + 1) := by
  have hlt : j < l.length := by
    rcases Nat.lt_or_ge j l.length with h1 | h1
    · exact h1
    · rw [List.getElem?_eq_none h1] at hj; cases hj
  have e : l = l.take j ++ 46 :: l.drop (j + 1) := by
    rw [List.getElem?_eq_getElem hlt] at hj
    injection hj with hj
    have h2 : l.drop j = 46 :: l.drop (j + 1) := by rw [← hj]; exact List.drop_eq_getElem_cons hlt
    rw [← h2, List.take_append_drop]
  have h3 := cut_app (l := l.take j) (l.drop (j + 1)) fun c hc => by
    obtain ⟨k, hk⟩ := List.mem_iff_getElem?.1 hc
    rcases Nat.lt_or_ge k j with h4 | h4
    · rw [List.getElem?_take_of_lt h4] at hk; exact h k h4 c hk
    · rw [List.getElem?_take_eq_none h4] at hk; cases hk
  rw [← e] at h3
  exact h3
set_option maxRecDepth 100000 in
set_option maxHeartbeats 1000000 in
theorem rnamed_any (s : ByteArray) (w : World) (hs : s.size ≤ 140737488351232) : Calls Tryz.prog 49 #[.string s] w (RNamedP w s) := by
  by_cases h7 : s.size < 7
  · have hn := seg_short h7
    have hres := hide (show RNamedP w s (.returned (.tuple #[.int .i64 0, .int .i64 0, .bool false])) w from ⟨0, 0, by rw [hn]; rfl, fun h => absurd (by rw [hn]) h, rfl⟩)
    clear hn
    go_enter Tryz.func49, Tryz.ntmps49
    go_wp2
    go_ret3
    exact hres.out
  by_cases h4 : (s.extract 0 4).data.toList = pre4
  · have h4' : ((s.extract 0 4).toList == [108, 111, 103, 46]) = true := by rw [ByteArray.toList_eq, h4]; rfl
    have hso := seg_pre h4
    have hlen := hide (show (s.data.toList.drop 4).length + 4 = s.size by rw [List.length_drop]; have := Lib.size_eq s; omega)
    have hat := hide (show ∀ i (h : i < s.size), 4 ≤ i → (s.data.toList.drop 4)[i - 4]? = some s[i] from fun i hi h4 => by
      rw [List.getElem?_drop, show 4 + (i - 4) = i by omega, byte_at s hi])
    have hc0 := hide hso
    clear hso h4
    go_enter Tryz.func49, Tryz.ntmps49
    go_wp2
    go_loop [5] (fun i => ∃ j : Nat, 4 ≤ j ∧ j ≤ s.size ∧ i = .int .i64 (j : Int) ∧ Hid (∀ k, k < j - 4 → ∀ c, (s.data.toList.drop 4)[k]? = some c → c ≠ 46)) (fun i => s.size - (intOf i).toNat)
    case atStart => exact ⟨4, by omega, by omega, rfl, fun k hk => absurd hk (by omega)⟩
    case round =>
      obtain ⟨j, hj4, hj, rfl, hT⟩ := hrel
      by_cases hlt : j < s.size
      · by_cases hd : (s[j].toNat : Int) = 46
        · have hd' : ((s[j].toNat : Int) != 46) = false := by simp [hd]
          have ha := hat.out j hlt hj4
          rw [show s[j] = 46 from UInt8.toNat_inj.1 (by show s[j].toNat = 46; omega)] at ha
          obtain ⟨c1, c2⟩ := cut_at hT.out ha
          have e1 : (s.extract 4 j).data.toList = cutA (s.data.toList.drop 4) := by rw [c1, Lib.extract_eq, str_list]
          have e2 : (s.extract (j + 1) s.size).data.toList = cutB (s.data.toList.drop 4) := by
            rw [c2, Lib.extract_eq, str_list, List.drop_drop, show 4 + (j - 4 + 1) = j + 1 by omega]
            exact List.take_of_length_le (by rw [List.length_drop, ← Lib.size_eq]; exact Nat.le_refl _)
          have z1 : (s.extract 4 j).size ≤ 140737488351232 := by rw [Lib.size_eq, e1, c1, List.length_take, List.length_drop, ← Lib.size_eq]; omega
          have z2 : (s.extract (j + 1) s.size).size ≤ 140737488351232 := by rw [Lib.size_eq, e2, c2, List.length_drop, List.length_drop, ← Lib.size_eq]; omega
          have k1 := hide (fun w => rnumber_any (s.extract 4 j) w z1)
          have k2 := hide (fun w => rnumber_any (s.extract (j + 1) s.size) w z2)
          rw [e1] at k1
          rw [e2] at k2
          have hso := hc0.out
          clear e1 e2 c1 c2 z1 z2 ha hd hT hc0
          generalize cntN (cutA (s.data.toList.drop 4)) = x at *
          generalize cntN (cutB (s.data.toList.drop 4)) = y at *
          have hres := hide (show RNamedP w s (.returned (.tuple #[.int .i64 x, .int .i64 y, .bool (nz x && nz y)])) w from by
            by_cases hx : x = 0
            · refine ⟨x, y, ?_, fun h => absurd (by rw [hso, if_pos (.inl hx)]) h, rfl⟩
              rw [hso, if_pos (.inl hx), hx]; rfl
            · by_cases hy : y = 0
              · refine ⟨x, y, ?_, fun h => absurd (by rw [hso, if_pos (.inr hy)]) h, rfl⟩
                rw [hso, if_pos (.inr hy), hy, show nz 0 = false from rfl, Bool.and_false]
              · refine ⟨x, y, ?_, fun h => by rw [hso, if_neg (by omega)], rfl⟩
                rw [hso, if_neg (by omega), show nz x = true from decide_eq_true hx, show nz y = true from decide_eq_true hy]; rfl)
          have hw : IntKind.i64.wrap ((j : Int) + 1) = (j : Int) + 1 := by rw [IntKind.wrap_i64]; omega
          clear hso
          cases hx : nz x
          all_goals
            rw [hx] at k1 hres
            go_wp2_with (first
              | (go_at_call 89; (with_reducible refine (k1.out _).mono ?_); rintro e w1 ⟨rfl, rfl⟩)
              | (go_at_call 89; (with_reducible refine (k2.out _).mono ?_); rintro e w1 ⟨rfl, rfl⟩))
            go_ret3
            exact hres.out
        · have hd' : ((s[j].toNat : Int) != 46) = true := by simpa using hd
          have hT2 := hide (show ∀ k, k < j + 1 - 4 → ∀ c, (s.data.toList.drop 4)[k]? = some c → c ≠ 46 from fun k hk c hc => by
            rcases Nat.lt_or_ge k (j - 4) with h | h
            · exact hT.out k h c hc
            · obtain rfl : k = j - 4 := by omega
              rw [hat.out j hlt hj4] at hc
              injection hc with hc
              intro e
              rw [e] at hc
              exact hd (by rw [hc]; rfl))
          clear hd hT
          go_wp2
          go_round
          case rel => exact ⟨j + 1, by omega, by omega, by go_num, hT2⟩
          case measure => simp [intOf]; omega
      · have hn := hide (show segOf s = (0, 0) from by
          rw [hc0.out, cutB_none (fun c hc => by
            obtain ⟨k, hk⟩ := List.mem_iff_getElem?.1 hc
            refine hT.out k ?_ c hk
            have := hlen.out
            rcases Nat.lt_or_ge k (s.data.toList.drop 4).length with h | h
            · omega
            · rw [List.getElem?_eq_none h] at hk; cases hk), if_pos (.inr rfl)])
        have hres := hide (show RNamedP w s (.returned (.tuple #[.int .i64 0, .int .i64 0, .bool false])) w from ⟨0, 0, by rw [hn.out]; rfl, fun h => absurd (by rw [hn.out]) h, rfl⟩)
        have hje : ((j : Int) == (s.size : Int)) = true := by simp; omega
        go_wp2
        go_ret3
        exact hres.out
  · have hn := seg_other h4
    have h4' : ((s.extract 0 4).toList == [108, 111, 103, 46]) = false := by rw [ByteArray.toList_eq]; exact beq_eq_false_iff_ne.2 h4
    have hres := hide (show RNamedP w s (.returned (.tuple #[.int .i64 0, .int .i64 0, .bool false])) w from ⟨0, 0, by rw [hn]; rfl, fun h => absurd (by rw [hn]) h, rfl⟩)
    clear hn h4
    go_enter Tryz.func49, Tryz.ntmps49
    go_wp2
    go_ret3
    exact hres.out
end Go.Proofs.YtkmcnhjfnjikaaaGreatDoor
/- What the document's digits and Segment come to. Conditions: numbers are from 1 on and below 100. -/
namespace Go.Proofs.YtkmcnhjfnjikaaaGreatDoor
open Go.RowKit Go.Maps
set_option maxRecDepth 100000 in
set_option maxHeartbeats 1000000 in
theorem rdigits_any (n : Nat) (w : World) (hn : 1 ≤ n ∧ n < 100) : Calls Tryz.prog 70 #[.int .i64 n] w fun e w' => e = .returned (.string ⟨(dgt n).toArray⟩) ∧ Below w.heap.size w w' := by
  have hcv : ∀ (w : World) (c : Int), (convert 31 9 (.slice (some ⟨w.heap.size, 0, none⟩) 1 1)).run Tryz.prog (w.alloc (.cells #[.int .u8 c] 5)) = .ok (.string (strOf [c])) (w.alloc (.cells #[.int .u8 c] 5)) := fun w c => conv_any (zs := [c]) rfl (lies_lit w [c] 5 (0, 0))
  have hb0 := hide (Below.refl w.heap.size w)
  go_enter Tryz.func70, Tryz.ntmps70
  go_wp2
  go_loopw [0, 3] (fun a s wr => ∃ (i : Nat) (b : ByteArray), a = .int .i64 i ∧ s = .string b ∧ ((i = n ∧ b = ⟨#[]⟩) ∨ (10 ≤ n ∧ i = n / 10 ∧ b = strOf [48 + ((n % 10 : Nat) : Int)]) ∨ (i = 0 ∧ b = ⟨(dgt n).toArray⟩)) ∧ Hid (Below w.heap.size w wr)) (fun a _ _ => (intOf a).toNat)
  case atStart => exact ⟨n, _, rfl, rfl, .inl ⟨rfl, rfl⟩, hb0⟩
  case round =>
    obtain ⟨i, b, rfl, rfl, hc, hb⟩ := hrel
    by_cases h0 : i = 0
    · have hbe : b = ⟨(dgt n).toArray⟩ := by rcases hc with ⟨h, _⟩ | ⟨h, h2, _⟩ | ⟨_, h⟩ <;> first | exact h | omega
      have hbn : (b.toList == []) = false := by
        rw [hbe, ByteArray.toList_eq, str_list]
        have := (dgt_len n).1
        cases hd : dgt n with
        | nil => rw [hd] at this; simp at this
        | cons _ _ => rfl
      have hbe2 := hide hbe
      clear hbe
      have t1 : decide ((0 : Int) < (i : Int)) = false := by simp; omega
      have t2 : decide (0 < i) = false := by simp; omega
      clear hc h0
      go_wp2
      go_ret
      exact ⟨by rw [hbe2.out]; rfl, hb.out⟩
    · have t1 : decide ((0 : Int) < (i : Int)) = true := by simp; omega
      have t2 : decide (0 < i) = true := by simp; omega
      have z : ¬ 9223372036854775807 < (strOf [48 + (i : Int) % 10]).size + b.size := by
        have h1 : (strOf [48 + (i : Int) % 10]).size = 1 := rfl
        have h2 : b.size ≤ 2 := by
          rcases hc with ⟨_, rfl⟩ | ⟨_, _, rfl⟩ | ⟨h, _⟩
          · exact Nat.zero_le _
          · exact Nat.le_succ _
          · exact absurd h h0
        omega
      have hres : ∃ b', strOf [48 + (i : Int) % 10] ++ b = b' ∧ ((i / 10 = n ∧ b' = ⟨#[]⟩) ∨ (10 ≤ n ∧ i / 10 = n / 10 ∧ b' = strOf [48 + ((n % 10 : Nat) : Int)]) ∨ (i / 10 = 0 ∧ b' = ⟨(dgt n).toArray⟩)) := by
        refine ⟨_, rfl, ?_⟩
        rcases hc with ⟨rfl, rfl⟩ | ⟨h1, rfl, rfl⟩ | ⟨h, _⟩
        · by_cases h10 : i < 10
          · refine .inr (.inr ⟨by omega, ?_⟩)
            have e : i % 10 = i := by omega
            unfold dgt strOf
            rw [if_pos h10, show (48 + (i : Int) % 10) = ((48 + i : Nat) : Int) by omega]
            rfl
          · refine .inr (.inl ⟨by omega, rfl, ?_⟩)
            rw [show (48 + (i : Int) % 10) = 48 + ((i % 10 : Nat) : Int) by omega]
            rfl
        · refine .inr (.inr ⟨by omega, ?_⟩)
          unfold dgt strOf
          rw [if_neg (by omega), show (48 + ((n / 10 : Nat) : Int) % 10) = ((48 + n / 10 : Nat) : Int) by omega, show (48 + ((n % 10 : Nat) : Int)) = ((48 + n % 10 : Nat) : Int) by omega]
          rfl
        · exact absurd h h0
      obtain ⟨b', e1, e2⟩ := hres
      have e1 := hide e1
      have e2 := hide e2
      have hb2 := hide (hb.out.alloc hb.out.size (.cells #[.int .u8 (48 + (i : Int) % 10)] 5))
      clear hc
      go_wp2
      go_roundw
      case rel => exact ⟨i / 10, b', by go_num, by rw [← e1.out], e2.out, hb2⟩
      case measure => simp [intOf]; omega
theorem seg_text' (g k : Nat) : ((((⟨#[108, 111, 103, 46]⟩ : ByteArray) ++ (⟨(dgt g).toArray⟩ : ByteArray)) ++ (⟨#[46]⟩ : ByteArray)) ++ (⟨(dgt k).toArray⟩ : ByteArray)) = segN g k := seg_text g k
set_option maxRecDepth 100000 in
set_option maxHeartbeats 1000000 in
theorem rsegment_any (g k : Nat) (w : World) (hg : 1 ≤ g ∧ g < 100) (hk : 1 ≤ k ∧ k < 100) : Calls Tryz.prog 36 #[.int .i64 g, .int .i64 k] w fun e w' => e = .returned (.string (segN g k)) ∧ Below w.heap.size w w' := by
  have h1 := hide (fun w => rdigits_any g w hg)
  have h2 := hide (fun w => rdigits_any k w hk)
  have sa : (⟨(dgt g).toArray⟩ : ByteArray).size ≤ 2 := by rw [str_size]; exact (dgt_len g).2
  have sb : (⟨(dgt k).toArray⟩ : ByteArray).size ≤ 2 := by rw [str_size]; exact (dgt_len k).2
  have ht := hide (seg_text g k)
  generalize (⟨(dgt g).toArray⟩ : ByteArray) = a at *
  generalize (⟨(dgt k).toArray⟩ : ByteArray) = b at *
  have z1 : ¬ (9223372036854775807 < 4 + a.size) := by omega
  have z2 : ¬ (9223372036854775807 < 4 + a.size + 1) := by omega
  have z3 : ¬ (9223372036854775807 < 4 + a.size + 1 + b.size) := by omega
  have hb0 := hide (Below.refl w.heap.size w)
  go_enter Tryz.func36, Tryz.ntmps36
  go_wp2_with (first
    | (go_at_call 70; (with_reducible refine (h1.out _).mono ?_); rintro e w1 ⟨rfl, hb1⟩; (have hb2 := hide (kept_trans hb0.out hb1)); clear hb0 hb1; (have hb0 := hb2); clear hb2)
    | (go_at_call 70; (with_reducible refine (h2.out _).mono ?_); rintro e w1 ⟨rfl, hb1⟩; (have hb2 := hide (kept_trans hb0.out hb1)); clear hb0 hb1; (have hb0 := hb2); clear hb2))
  go_ret
  rw [← ht.out]
  exact ⟨rfl, hb0.out⟩
end Go.Proofs.YtkmcnhjfnjikaaaGreatDoor
