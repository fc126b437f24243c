/- What the library's calls in package wal come to: CutPrefix, Cut at a point, Itoa below 100, Sort and Compact of ints. Conditions as they stand. -/
import Derived.Test.YtkmcnhjfnjikaaaGreatDoorWalay
import Derived.Test.YtkmcnhjfnjikaaaGreatDoorVnam
import Derived.Test.YtkmcnhjfnjikaaaGreatDoorKbas
import Derived.Lib.CutLaws
import Derived.WalkKit
import Derived.WalkSpells
import Derived.WalkLawsBesides
import Derived.LoopTactic
import Derived.BigQuiet
import Derived.Deep.QuietTactic
import Derived.Deep.DeepCutAuto
import Derived.Test.YtkmcnhjfnjikaaaGreatDoorKtea
namespace Go.Proofs.YtkmcnhjfnjikaaaGreatDoor
open Go.RowKit
def dot : ByteArray := ⟨#[46]⟩
def pre4s : ByteArray := ⟨#[108, 111, 103, 46]⟩
theorem cutPrefix_any (s : ByteArray) (w : World) : Calls Tryz.prog 99 #[.string s, .string ⟨#[108, 111, 103, 46]⟩] w fun e w' => e = .returned (.tuple #[.string ⟨(Lib.trimPrefix s.data.toList pre4).toArray⟩, .bool (Lib.hasPrefix s.data.toList pre4)]) ∧ w = w' :=
  (Any.strings_CutPrefix Tryz.layCutPrefix s ⟨#[108, 111, 103, 46]⟩ w).mono fun _ _ ⟨h, g⟩ => ⟨h, g.symm⟩
theorem index_dot (s : ByteArray) (w : World) : Calls Tryz.prog 144 #[.string s, .string ⟨#[46]⟩] w fun e w' => e = .returned (.int .i64 (Lib.indexByte s.data.toList 46)) ∧ w = w' :=
  (Any.stringslite_Index_one Tryz.layIndex s 46 w).mono fun _ _ ⟨h, g⟩ => ⟨h, g.symm⟩
theorem itoa_any (i : Nat) (hi : i < 100) (w : World) : Calls Tryz.prog 107 #[.int .i64 i] w fun e w' => e = .returned (.string ⟨(dgt i).toArray⟩) ∧ w = w' :=
  (Any.strconv_Itoa_small Tryz.layItoa i hi w).mono fun _ _ ⟨h, g⟩ => ⟨by rw [h, dec_dgt hi], g.symm⟩
/-- What Cut at a point answers. -/
def CutP (s : ByteArray) (w : World) (e : Ending) (w' : World) : Prop := ∃ (t : Bool) (q : Nat), e = .returned (.tuple #[.string ⟨(cutA s.data.toList).toArray⟩, .string ⟨(cutB s.data.toList).toArray⟩, .bool t]) ∧ w' = w.drewN q
set_option maxRecDepth 100000 in
set_option maxHeartbeats 1000000 in
theorem cut_lite (s : ByteArray) (w : World) (hs : s.size ≤ 140737488351232) : Calls Tryz.prog 115 #[.string s, .string ⟨#[46]⟩] w (CutP s w) := by
  have hix := index_dot s
  by_cases hm : Lib.indexByte s.data.toList 46 = -1
  · rw [hm] at hix
    have hc := cut_miss hm
    unfold CutP
    rw [hc.1, hc.2]
    clear hc hm
    go_enter Tryz.func115, Tryz.ntmps115
    go_wp2_with (go_at_call 144; (with_reducible refine (hix _).mono ?_); rintro e w1 ⟨rfl, rfl⟩)
    go_ret3
    exact ⟨false, 0, rfl, rfl⟩
  · obtain ⟨i, hi⟩ : ∃ i : Nat, Lib.indexByte s.data.toList 46 = (i : Int) := ⟨(Lib.indexByte s.data.toList 46).toNat, by have := Lib.indexByte_ge s.data.toList 46; omega⟩
    rw [hi] at hix
    have hc := cut_hit hi
    have hl := Lib.size_eq s
    unfold CutP
    rw [hc.1, hc.2.1]
    have c1 : (0 : Int) ≤ ↑i := by omega
    have c2 : (↑i : Int) ≤ ↑s.size := by omega
    have c3 : (0 : Int) ≤ ↑i + 1 := by omega
    have c4 : (↑i + 1 : Int) ≤ ↑s.size := by omega
    have c5 : IntKind.i64.wrap ((i : Int) + 1) = (i : Int) + 1 := by rw [IntKind.wrap_i64]; omega
    have hfin := hide (show ∀ w : World, Ending.returned (.tuple #[.string (s.extract 0 i), .string (s.extract (i + 1) s.size), .bool true]) = .returned (.tuple #[.string ⟨(s.data.toList.take i).toArray⟩, .string ⟨(s.data.toList.drop (i + 1)).toArray⟩, .bool true]) from fun _ => by
      have e1 : s.extract 0 i = ⟨(s.data.toList.take i).toArray⟩ := by rw [Lib.extract_eq]; simp
      have ht : List.take (s.size - (i + 1)) (List.drop (i + 1) s.data.toList) = List.drop (i + 1) s.data.toList := List.take_of_length_le (by rw [List.length_drop, ← hl]; exact Nat.le_refl _)
      have e2 : s.extract (i + 1) s.size = ⟨(s.data.toList.drop (i + 1)).toArray⟩ := by rw [Lib.extract_eq, ht]
      rw [e1, e2])
    clear hl hi hc hm
    go_enter Tryz.func115, Tryz.ntmps115
    go_wp2_with (go_at_call 144; (with_reducible refine (hix _).mono ?_); rintro e w1 ⟨rfl, rfl⟩)
    go_region
    go_wp2
    go_ret3
    exact ⟨true, 1, hfin.out w, rfl⟩
set_option maxRecDepth 100000 in
theorem cut_dot (s : ByteArray) (w : World) (hs : s.size ≤ 140737488351232) : Calls Tryz.prog 100 #[.string s, .string ⟨#[46]⟩] w (CutP s w) := by
  have hc := cut_lite s w hs
  go_enter Tryz.func100, Tryz.ntmps100
  go_wp2_with (go_at_call 115; (with_reducible refine hc.mono ?_); rintro e w1 ⟨t, q, rfl, rfl⟩)
  go_ret3
  exact ⟨t, q, rfl, rfl⟩
end Go.Proofs.YtkmcnhjfnjikaaaGreatDoor
/- What package wal's count, named, name and the document's digits, Segment, number, named come to. Conditions: the text has room; numbers are below 100. -/
namespace Go.Proofs.YtkmcnhjfnjikaaaGreatDoor
open Go.RowKit
/-- Is byte k a digit. -/
def dAt (s : ByteArray) (k : Nat) : Prop := ∀ h : k < s.size, 48 ≤ (s[k].toNat : Int) ∧ (s[k].toNat : Int) ≤ 57
def valP (s : ByteArray) (k : Nat) : Nat := valN (s.data.toList.take k)
theorem byte_at (s : ByteArray) {k : Nat} (h : k < s.size) : s.data.toList[k]? = some s[k] := by
  rw [List.getElem?_eq_getElem (by rw [← Lib.size_eq]; exact h)]; rfl
theorem valP_succ (s : ByteArray) {k : Nat} (h : k < s.size) : valP s (k + 1) = valP s k * 10 + (s[k].toNat - 48) := by
  unfold valP valN
  rw [List.take_add_one, byte_at s h, List.foldl_append]
  rfl
theorem valP_lt (s : ByteArray) : ∀ k, k ≤ s.size → (∀ j, j < k → dAt s j) → valP s k < 10 ^ k
  | 0, _, _ => by unfold valP valN; simp
  | k + 1, hk, h => by
    have ih := valP_lt s k (by omega) fun j hj => h j (by omega)
    have hd := h k (by omega) (by omega)
    rw [valP_succ s (by omega), Nat.pow_succ]
    omega
theorem all_dig (s : ByteArray) : s.data.toList.all digit = true ↔ ∀ k, k < s.size → dAt s k := by
  rw [List.all_eq_true]
  constructor
  · intro h k hk _
    have := h (s[k]) (by show s.data[k] ∈ s.data.toList; exact Array.getElem_mem_toList hk)
    simp [digit, UInt8.le_iff_toNat_le] at this
    omega
  · intro h c hc
    obtain ⟨k, hk, rfl⟩ := List.getElem_of_mem hc
    rw [Array.length_toList] at hk
    have := h k hk hk
    simp [digit, UInt8.le_iff_toNat_le]
    have e : s[k] = s.data[k] := rfl
    rw [e] at this
    omega
theorem head_is (s : ByteArray) (h : 0 < s.size) : s.data.toList.getD 0 0 = s[0] := by
  rw [List.getD_eq_getElem?_getD, byte_at s h]; rfl
theorem cnt_len {s : ByteArray} (h : s.size < 1 ∨ 9 < s.size) : cntN s.data.toList = 0 := by
  unfold cntN; rw [if_neg]; rw [← Lib.size_eq]; omega
theorem cnt_zero {s : ByteArray} (h : 0 < s.size) (h0 : (s[0].toNat : Int) = 48) : cntN s.data.toList = 0 := by
  unfold cntN; rw [if_neg]
  rintro ⟨_, _, h1, _⟩
  rw [head_is s h] at h1
  exact h1 (UInt8.toNat_inj.1 (by show s[0].toNat = 48; omega))
theorem cnt_bad {s : ByteArray} {k : Nat} (hk : k < s.size) (h : ¬ dAt s k) : cntN s.data.toList = 0 := by
  unfold cntN; rw [if_neg]
  rintro ⟨_, _, _, h1⟩
  exact h ((all_dig s).1 h1 k hk)
theorem cnt_ok {s : ByteArray} (h1 : 1 ≤ s.size) (h9 : s.size ≤ 9) (h0 : (s[0].toNat : Int) ≠ 48) (h : ∀ k, k < s.size → dAt s k) : cntN s.data.toList = valP s s.size := by
  have h3 : s.data.toList.getD 0 0 ≠ 48 := by
    rw [head_is s h1]
    intro e
    exact h0 (by rw [e]; rfl)
  unfold cntN valP
  rw [if_pos ⟨by rw [← Lib.size_eq]; exact h1, by rw [← Lib.size_eq]; exact h9, h3, (all_dig s).2 h⟩, List.take_of_length_le (by rw [← Lib.size_eq]; exact Nat.le_refl _)]
theorem cnt_lt (l : List UInt8) : cntN l < 1000000000 := by
  have key : ∀ l : List UInt8, l.all digit = true → ∀ a, l.foldl (fun n c => n * 10 + (c.toNat - 48)) a < (a + 1) * 10 ^ l.length := by
    intro l
    induction l with
    | nil => intro _ a; simp
    | cons c l ih =>
      intro h a
      simp only [List.all_cons, Bool.and_eq_true] at h
      have h1 := ih h.2 (a * 10 + (c.toNat - 48))
      have hc : c.toNat ≤ 57 := by have := h.1; simp [digit, UInt8.le_iff_toNat_le] at this; omega
      rw [List.foldl_cons, List.length_cons, Nat.pow_succ]
      refine Nat.lt_of_lt_of_le h1 ?_
      rw [Nat.mul_comm (10 ^ l.length) 10, ← Nat.mul_assoc]
      exact Nat.mul_le_mul_right _ (by omega)
  unfold cntN
  split
  · rename_i h
    have h1 := key l h.2.2.2 0
    have h2 : 10 ^ l.length ≤ 10 ^ 9 := Nat.pow_le_pow_right (by omega) h.2.1
    rw [Nat.zero_add, Nat.one_mul] at h1
    exact Nat.lt_of_lt_of_le h1 h2
  · omega
set_option maxRecDepth 100000 in
set_option maxHeartbeats 1000000 in
theorem wcount_any (s : ByteArray) (w : World) (hs : s.size ≤ 140737488351232) : Calls Tryz.prog 101 #[.string s] w fun e w' => e = .returned (.int .i64 (cntN s.data.toList : Nat)) ∧ w = w' := by
  by_cases h0 : s.size < 1
  · have hn := hide (cnt_len (.inl h0))
    go_enter Tryz.func101, Tryz.ntmps101
    go_wp2
    go_ret
    exact ⟨by rw [hn.out]; rfl, rfl⟩
  by_cases h1 : 9 < s.size
  · have hn := hide (cnt_len (.inr h1))
    go_enter Tryz.func101, Tryz.ntmps101
    go_wp2
    go_ret
    exact ⟨by rw [hn.out]; rfl, rfl⟩
  have hpos : 0 < s.size := by omega
  by_cases h2 : (s[0].toNat : Int) = 48
  · have hn := hide (cnt_zero hpos h2)
    have h2' : ((s[0].toNat : Int) == 48) = true := by simpa using h2
    clear h2
    go_enter Tryz.func101, Tryz.ntmps101
    go_wp2
    go_ret
    exact ⟨by rw [hn.out]; rfl, rfl⟩
  have h2' : ((s[0].toNat : Int) == 48) = false := by simpa using h2
  have H2 := hide h2
  clear h2
  go_enter Tryz.func101, Tryz.ntmps101
  go_wp2
  go_loop [3, 20] (fun n i => ∃ k : Nat, k ≤ s.size ∧ n = .int .i64 (valP s k : Nat) ∧ i = .int .i64 k ∧ Hid (∀ j, j < k → dAt s j)) (fun _ i => s.size - (intOf i).toNat)
  case atStart => exact ⟨0, by omega, rfl, rfl, fun j hj => absurd hj (by omega)⟩
  case round =>
    obtain ⟨k, hk, rfl, rfl, hs⟩ := hrel
    by_cases hlt : k < s.size
    · by_cases hc : dAt s k
      · have hc' := hc hlt
        have HC := hide hc
        have HS := hide (show ∀ j, j < k + 1 → dAt s j from fun j hj => by
          rcases Nat.lt_or_ge j k with h | h
          · exact hs.out j h
          · obtain rfl : j = k := by omega
            exact HC.out)
        obtain ⟨hc1, hc2⟩ := hc'
        have hV : valP s k < 1000000000 := Nat.lt_of_lt_of_le (valP_lt s k hk hs.out) (show 10 ^ k ≤ 10 ^ 9 from Nat.pow_le_pow_right (by omega) (by omega))
        have HQ := hide (valP_succ s hlt)
        have HR := hide (show ((valP s k : Nat) : Int) * 10 + ((s[k].toNat : Int) - 48) = ((valP s (k + 1) : Nat) : Int) by rw [HQ.out]; omega)
        clear hc HC hs HQ
        generalize hVe : valP s k = V at *
        clear hVe
        go_wp2
        go_round
        case rel => exact ⟨k + 1, by omega, by rw [← HR.out], by go_num, HS⟩
        case measure => simp [intOf]; omega
      · have hn := hide (cnt_bad hlt hc)
        have hc' : (s[k].toNat : Int) < 48 ∨ 57 < (s[k].toNat : Int) := by
          rcases Int.lt_or_le (s[k].toNat : Int) 48 with h | h
          · exact .inl h
          · right
            rcases Int.lt_or_le 57 (s[k].toNat : Int) with h2 | h2
            · exact h2
            · exact absurd (fun _ => ⟨h, h2⟩) hc
        clear hc hs
        rcases hc' with hc' | hc'
        · go_wp2
          go_ret
          exact ⟨by rw [hn.out]; rfl, rfl⟩
        · go_wp2
          all_goals
            go_ret
            exact ⟨by rw [hn.out]; rfl, rfl⟩
    · have hn := hide (cnt_ok (s := s) (by omega) (by omega) H2.out (fun j hj => hs.out j (by omega)))
      obtain rfl : k = s.size := by omega
      go_wp2
      go_ret
      exact ⟨congrArg (fun n : Nat => Ending.returned (.int .i64 (n : Int))) hn.out.symm, rfl⟩
/-- What named answers. -/
def NamedP (w : World) (s : ByteArray) (e : Ending) (w' : World) : Prop := e = .returned (.tuple #[.agg #[.int .i64 ((segOf s).1 : Nat), .int .i64 ((segOf s).2 : Nat)], .bool (decide ((segOf s).1 ≠ 0))]) ∧ Below w.heap.size w w'
theorem str_list (l : List UInt8) : (⟨l.toArray⟩ : ByteArray).data.toList = l := by simp
theorem str_size (l : List UInt8) : (⟨l.toArray⟩ : ByteArray).size = l.length := by rw [Lib.size_eq, str_list]
theorem len_cutA : ∀ l : List UInt8, (cutA l).length ≤ l.length
  | [] => Nat.le_refl _
  | c :: l => by
    have := len_cutA l
    unfold cutA
    split
    · simp
    · simp; omega
theorem len_cutB : ∀ l : List UInt8, (cutB l).length ≤ l.length
  | [] => Nat.le_refl _
  | c :: l => by
    have := len_cutB l
    unfold cutB
    split
    · simp
    · simp; omega
/-- A segment and one thing more, the segment out of its cell. -/
theorem res_seg2 {fn : Func} {tmps : Array Value} {w : World} {a b h : Nat} {x y v : Value} (hf : fn.results = #[.cell a 80, .tmp b]) (ht : tmps[a]? = some (.pointer (some ⟨h, 0, none⟩))) (hb : tmps[b]? = some v)
    (c0 : w.cell? ⟨h, 0, none⟩ = some x) (c1 : w.cell? ⟨h, 1, none⟩ = some y) : (results fn tmps).run Tryz.prog w = .ok (.tuple #[.agg #[x, y], v]) w := by
  simp [results, hf, ht, hb, go_sem, c0, c1]
theorem res_seg {fn : Func} {tmps : Array Value} {w : World} {a h : Nat} {x y : Value} (hf : fn.results = #[.cell a 80]) (ht : tmps[a]? = some (.pointer (some ⟨h, 0, none⟩)))
    (c0 : w.cell? ⟨h, 0, none⟩ = some x) (c1 : w.cell? ⟨h, 1, none⟩ = some y) : (results fn tmps).run Tryz.prog w = .ok (.agg #[x, y]) w := by
  simp [results, hf, ht, go_sem, c0, c1]
set_option maxRecDepth 100000 in
set_option maxHeartbeats 1000000 in
theorem named_any (s : ByteArray) (w : World) (hs : s.size ≤ 140737488351232) : Calls Tryz.prog 73 #[.string s] w (NamedP w s) := by
  have hcp := fun w => cutPrefix_any s w
  cases hp : Lib.hasPrefix s.data.toList pre4
  · have hso : segOf s = (0, 0) := by unfold segOf segL; rw [hp, if_neg (by simp)]
    unfold NamedP
    rw [hso]
    rw [hp] at hcp
    clear hso hp
    go_enter Tryz.func73, Tryz.ntmps73
    go_wp2_with (go_at_call 99; (with_reducible refine (hcp _).mono ?_); rintro e w1 ⟨rfl, rfl⟩)
    have R := Row.new w 80 #[Value.int .i64 0, Value.int .i64 0]
    exact bodyPost_ret (res_seg2 Tryz.results73 rfl rfl (R.cell 0) (R.cell 1)) rfl ⟨rfl, (Below.refl _ w).alloc (Nat.le_refl _) _⟩
  · have htp : Lib.trimPrefix s.data.toList pre4 = s.data.toList.drop 4 := by unfold Lib.trimPrefix; rw [if_pos hp]; rfl
    have hso : segOf s = if cntN (cutA (s.data.toList.drop 4)) = 0 ∨ cntN (cutB (s.data.toList.drop 4)) = 0 then (0, 0) else (cntN (cutA (s.data.toList.drop 4)), cntN (cutB (s.data.toList.drop 4))) := by unfold segOf segL; rw [if_pos hp]
    rw [hp, htp] at hcp
    have hl := Lib.size_eq s
    have l0 : (s.data.toList.drop 4).length ≤ 140737488351232 := by rw [List.length_drop]; omega
    unfold NamedP
    rw [hso]
    clear hso hp htp hl
    generalize s.data.toList.drop 4 = L at *
    have hcut := fun w => cut_dot ⟨L.toArray⟩ w (by rw [str_size]; exact l0)
    have ha := fun w => wcount_any ⟨(cutA L).toArray⟩ w (by rw [str_size]; have := len_cutA L; omega)
    have hb := fun w => wcount_any ⟨(cutB L).toArray⟩ w (by rw [str_size]; have := len_cutB L; omega)
    have b1 := cnt_lt (cutA L)
    have b2 := cnt_lt (cutB L)
    unfold CutP at hcut
    rw [str_list] at hcut ha hb
    generalize cntN (cutA L) = x at *
    generalize cntN (cutB L) = y at *
    have R := Row.new w 80 #[Value.int .i64 0, Value.int .i64 0]
    have B := (Below.refl w.heap.size w).alloc (Nat.le_refl _) (.cells #[Value.int .i64 0, Value.int .i64 0] 80)
    by_cases hx : x = 0
    · subst hx
      rw [if_pos (.inl rfl)]
      go_enter Tryz.func73, Tryz.ntmps73
      go_wp2_with (first
        | (go_at_call 99; (with_reducible refine (hcp _).mono ?_); rintro e w1 ⟨rfl, rfl⟩)
        | (go_at_call 100; (with_reducible refine (hcut _).mono ?_); rintro e w2 ⟨t, q, rfl, rfl⟩)
        | (go_at_call 101; (with_reducible refine (ha _).mono ?_); rintro e w3 ⟨rfl, rfl⟩)
        | (go_at_call 101; (with_reducible refine (hb _).mono ?_); rintro e w3 ⟨rfl, rfl⟩))
      have R2 := (((R.drewN q).put 0 (.int .i64 0)).put 1 (.int .i64 0)).alloc (.cells #[Value.int .i64 (0 : Nat), Value.int .i64 (y : Nat)] 80)
      exact bodyPost_ret (res_seg2 Tryz.results73 rfl rfl (R2.cell 0) (R2.cell 1)) rfl ⟨rfl, (((below_drewN' B q).setCell (Nat.le_refl _) _).setCell (Nat.le_refl _) _).alloc (by simp) _⟩
    · have hx' : ((x : Int) == 0) = false := by simpa using hx
      by_cases hy : y = 0
      · subst hy
        rw [if_pos (.inr rfl)]
        clear hx
        go_enter Tryz.func73, Tryz.ntmps73
        go_wp2_with (first
          | (go_at_call 99; (with_reducible refine (hcp _).mono ?_); rintro e w1 ⟨rfl, rfl⟩)
          | (go_at_call 100; (with_reducible refine (hcut _).mono ?_); rintro e w2 ⟨t, q, rfl, rfl⟩)
          | (go_at_call 101; (with_reducible refine (ha _).mono ?_); rintro e w3 ⟨rfl, rfl⟩)
          | (go_at_call 101; (with_reducible refine (hb _).mono ?_); rintro e w3 ⟨rfl, rfl⟩))
        have R2 := (((R.drewN q).put 0 (.int .i64 0)).put 1 (.int .i64 0)).alloc (.cells #[Value.int .i64 (x : Nat), Value.int .i64 (0 : Nat)] 80)
        exact bodyPost_ret (res_seg2 Tryz.results73 rfl rfl (R2.cell 0) (R2.cell 1)) rfl ⟨rfl, (((below_drewN' B q).setCell (Nat.le_refl _) _).setCell (Nat.le_refl _) _).alloc (by simp) _⟩
      · have hy' : ((y : Int) == 0) = false := by simpa using hy
        rw [if_neg (by omega)]
        have hres := hide (show decide (x ≠ 0) = true by simpa using hx)
        clear hx hy
        go_enter Tryz.func73, Tryz.ntmps73
        go_wp2_with (first
          | (go_at_call 99; (with_reducible refine (hcp _).mono ?_); rintro e w1 ⟨rfl, rfl⟩)
          | (go_at_call 100; (with_reducible refine (hcut _).mono ?_); rintro e w2 ⟨t, q, rfl, rfl⟩)
          | (go_at_call 101; (with_reducible refine (ha _).mono ?_); rintro e w3 ⟨rfl, rfl⟩)
          | (go_at_call 101; (with_reducible refine (hb _).mono ?_); rintro e w3 ⟨rfl, rfl⟩))
        have R2 := (((R.drewN q).put 0 (.int .i64 (x : Nat))).put 1 (.int .i64 (y : Nat))).alloc (.cells #[Value.int .i64 (x : Nat), Value.int .i64 (y : Nat)] 80)
        exact bodyPost_ret (res_seg2 Tryz.results73 rfl rfl (R2.cell 0) (R2.cell 1)) rfl ⟨congrArg (fun t : Bool => Ending.returned (.tuple #[.agg #[.int .i64 (x : Nat), .int .i64 (y : Nat)], .bool t])) hres.out.symm, (((below_drewN' B q).setCell (Nat.le_refl _) _).setCell (Nat.le_refl _) _).alloc (by simp) _⟩
end Go.Proofs.YtkmcnhjfnjikaaaGreatDoor
/- What a segment's name and read come to. Conditions: its numbers are below 100; the disk lies in memory as it must. -/
namespace Go.Proofs.YtkmcnhjfnjikaaaGreatDoor
open Go.RowKit Go.Maps
theorem quiet_w {P : Program} {f : FuncId} {args : Array Value} {w : World} {n : Nat} {v : Value} (h : Calls P f args (w.drewN n) fun e w' => e = .returned v ∧ w.drewN n = w') :
    Calls P f args (w.drewN n) fun e w'' => e = .returned v ∧ ∃ m, w'' = w.drewN m := h.mono fun _ _ ⟨he, hm⟩ => ⟨he, n, hm.symm⟩
theorem seg_text (g k : Nat) : (((⟨#[108, 111, 103, 46]⟩ : ByteArray) ++ (⟨(dgt g).toArray⟩ : ByteArray)) ++ (⟨#[46]⟩ : ByteArray)) ++ (⟨(dgt k).toArray⟩ : ByteArray) = segN g k := by
  apply ByteArray.ext
  apply Array.toList_inj.1
  unfold segN pre4
  simp
set_option maxRecDepth 100000 in
set_option maxHeartbeats 1000000 in
theorem name_any (g k : Nat) (w : World) (hg : g < 100) (hk : k < 100) : Calls Tryz.prog 79 #[.agg #[.int .i64 g, .int .i64 k]] w fun e w' => e = .returned (.string (segN g k)) ∧ Below w.heap.size w w' := by
  have h1 := fun w => itoa_any g hg w
  have h2 := fun w => itoa_any k hk w
  have R := Row.new w 80 #[Value.int .i64 g, Value.int .i64 k]
  have c0 := R.cell 0
  have c1 := R.cell 1
  simp only [List.getElem?_toArray, List.getElem?_cons_zero, List.getElem?_cons_succ] at c0 c1
  have B := (Below.refl w.heap.size w).alloc (Nat.le_refl _) (.cells #[Value.int .i64 g, Value.int .i64 k] 80)
  have ht := seg_text g k
  have sa : (⟨(dgt g).toArray⟩ : ByteArray).size ≤ 2 := by rw [str_size]; exact (dgt_len g).2
  have sb : (⟨(dgt k).toArray⟩ : ByteArray).size ≤ 2 := by rw [str_size]; exact (dgt_len k).2
  clear R
  generalize (⟨(dgt g).toArray⟩ : ByteArray) = a at *
  generalize (⟨(dgt k).toArray⟩ : ByteArray) = b at *
  have z1 : ¬ (9223372036854775807 < 4 + a.size) := by omega
  have z2 : ¬ (9223372036854775807 < 4 + a.size + 1) := by omega
  have z3 : ¬ (9223372036854775807 < 4 + a.size + 1 + b.size) := by omega
  have ht := hide ht
  go_enter Tryz.func79, Tryz.ntmps79
  go_upto_region 1 with (fail)
  go_quiet (first
    | (go_at_call 107; (with_reducible exact quiet_w (h1 _)))
    | (go_at_call 107; (with_reducible exact quiet_w (h2 _))))
  go_wp2
  go_ret
  rw [← ht.out]
  exact ⟨rfl, below_drewN' B nq⟩
theorem ReadP.of_below {w w1 w' : World} {o : Option Fl} {e : Ending} (hb : Below w.heap.size w w1) (h : ReadP w1 o e w') : ReadP w o e w' := by
  obtain ⟨A, c, he, ho, h2⟩ := h
  exact ⟨A, c, he, own_mono ho hb.size, kept_trans hb h2⟩
section
variable {X : Nat → Prop} {p : Nat} {d : DS} {w : World}
set_option maxRecDepth 100000 in
set_option maxHeartbeats 1000000 in
theorem sread_any (g k : Nat) (hg : 1 ≤ g ∧ g < 100) (hk : k < 100) (h : Dq X w p d) : Calls Tryz.prog 82 #[.agg #[.int .i64 g, .int .i64 k], .pointer (some ⟨p, 0, none⟩)] w (ReadP w (find (segN g k) d.l)) := by
  have hg1 : decide ((g : Int) < 1) = false := by simp; omega
  have hk1 : decide ((999999999 : Int) < (k : Int)) = false := by simp; omega
  have hn := fun w => name_any g k w hg.2 hk
  have hs := segN_size g k
  have R := Row.new w 80 #[Value.int .i64 g, Value.int .i64 k]
  have c0 := R.cell 0
  have c1 := R.cell 1
  simp only [List.getElem?_toArray, List.getElem?_cons_zero, List.getElem?_cons_succ] at c0 c1
  have B := (Below.refl w.heap.size w).alloc (Nat.le_refl _) (.cells #[Value.int .i64 g, Value.int .i64 k] 80)
  clear R
  have hr := hide (fun (w1 : World) (hb : Below w.heap.size w w1) => (read_q (nm := segN g k) (h.below hb) (by unfold maxLen; omega)).mono fun e w' (x : ReadP w1 (find (segN g k) d.l) e w') => ReadP.of_below hb x)
  clear h
  generalize find (segN g k) d.l = o at *
  generalize segN g k = nm at *
  have B := hide B
  go_enter Tryz.func82, Tryz.ntmps82
  go_wp2_with (first
    | (go_at_call 79; (with_reducible refine (hn _).mono ?_); rintro e w1 ⟨rfl, k1⟩; have B1 := hide (kept_trans B.out k1); clear k1)
    | (go_at_call 35; (with_reducible refine (hr.out _ B1.out).mono ?_); rintro e w2 ⟨A, c, rfl, o2, b2⟩))
  go_ret2
  exact ⟨A, c, rfl, o2, b2⟩
end
set_option maxRecDepth 100000 in
theorem sread_none (k : Nat) (p : Option Addr) (w : World) : Calls Tryz.prog 82 #[.agg #[.int .i64 0, .int .i64 k], .pointer p] w fun e w' => e = .returned (.tuple #[.slice none 0 0, .bool false]) ∧ Below w.heap.size w w' := by
  have R := Row.new w 80 #[Value.int .i64 0, Value.int .i64 k]
  have c0 := R.cell 0
  have c1 := R.cell 1
  simp only [List.getElem?_toArray, List.getElem?_cons_zero, List.getElem?_cons_succ] at c0 c1
  have B := (Below.refl w.heap.size w).alloc (Nat.le_refl _) (.cells #[Value.int .i64 0, Value.int .i64 k] 80)
  clear R
  have B := hide B
  go_enter Tryz.func82, Tryz.ntmps82
  go_wp2
  go_ret2
  exact ⟨rfl, B.out⟩
end Go.Proofs.YtkmcnhjfnjikaaaGreatDoor
