/- The document's disk: what only looks, and its power. Conditions: the slice has room. -/
import Derived.Test.YtllgjbkmemheoaaRefd
import Derived.Test.YtllgjbkmemheoaaNamec
import Derived.LoopTactic
namespace Go.Proofs.Ytllgjbkmemheoaa
open Go.RowKit Go.Maps
set_option maxHeartbeats 1000000 in
theorem rname_any (s : ByteArray) (w : World) (hs : s.size ≤ 140737488351232) : Calls Try.prog 46 #[.string s] w fun e w' => e = .returned (.bool (nameB s)) ∧ w = w' := by
  go_enter Try.func46, Try.ntmps46
  go_wp2
  go_loop [3] (fun i => ∃ k : Nat, k ≤ s.size ∧ i = .int .i64 k ∧ Hid (∀ j, j < k → okAt s j)) (fun i => s.size - (intOf i).toNat)
  case atStart => exact ⟨0, by omega, rfl, fun j hj => absurd hj (by omega)⟩
  case round =>
    obtain ⟨k, hk, rfl, hs⟩ := hrel
    by_cases hlt : k < s.size
    · by_cases hc : okAt s k
      · have hc' := hc hlt
        have HC := hide hc
        have HS := hide (show ∀ j, j < k + 1 → okAt s j from fun j hj => by
          rcases Nat.lt_or_ge j k with h | h
          · exact hs.out j h
          · obtain rfl : j = k := by omega
            exact HC.out)
        obtain ⟨hc1, hc2⟩ := hc'
        clear hc HC hs
        go_wp2
        go_round
        case rel => exact ⟨k + 1, by omega, by go_num, HS⟩
        case measure => simp [intOf]; omega
      · have hn := hide (name_no hlt hc)
        have hc' : (s[k].toNat : Int) < 33 ∨ 126 < (s[k].toNat : Int) := by
          rcases Int.lt_or_le (s[k].toNat : Int) 33 with h | h
          · exact .inl h
          · right
            rcases Int.lt_or_le 126 (s[k].toNat : Int) with h2 | h2
            · exact h2
            · exact absurd (fun _ => ⟨h, h2⟩) hc
        clear hc hs
        rcases hc' with hc' | hc'
        · go_wp2
          go_ret
          exact ⟨ret_bool hn.out.symm, rfl⟩
        · go_wp2
          all_goals
            go_ret
            exact ⟨ret_bool hn.out.symm, rfl⟩
    · have hall := hide (show ∀ j, j < s.size → okAt s j from fun j hj => hs.out j (by omega))
      clear hs
      by_cases h0 : s.size < 1
      · have hn := hide (name_none h0)
        have he1 : s.toList = [] := by rw [ByteArray.toList_eq]; exact List.eq_nil_of_length_eq_zero (by rw [Array.length_toList]; show s.size = 0; omega)
        go_wp2
        go_ret
        exact ⟨ret_bool (by rw [hn.out]), rfl⟩
      · have he0 : s.toList.isEmpty = false := by
          rw [ByteArray.toList_eq]
          have hz : s.data.toList.length = s.size := Array.length_toList
          cases hl : s.data.toList with
          | nil => rw [hl] at hz; exact absurd (show s.size < 1 from by rw [← hz]; exact Nat.one_pos) h0
          | cons => rfl
        by_cases h1 : 24 < s.size
        · have hn := hide (name_long h1)
          go_wp2
          go_ret
          exact ⟨ret_bool (by rw [hn.out]; simp; omega), rfl⟩
        · have hn := hide (name_yes (s := s) (by omega) (by omega) hall.out)
          go_wp2
          go_ret
          exact ⟨ret_bool (by rw [hn.out]; simp; omega), rfl⟩
/-- Where a file is: nowhere, or there. -/
def AtP (nm : ByteArray) (l : List Fl) (v : Int) : Prop := (v = -1 ∧ find nm l = none) ∨ ∃ k f, v = (k : Nat) ∧ l[k]? = some f ∧ f.nm = nm
section
variable {S : Nat → Prop} {w : World} {g : Nat} {R : List (Fl × Ps)} {A : Option Addr} {c : Nat} {d : DS}
set_option maxHeartbeats 1000000 in
theorem at_any (h : Rp S w g R A c d) (nm : ByteArray) (hln : d.l.length ≤ 1000000) :
    Calls Try.prog 49 #[.pointer (some ⟨g, 0, none⟩), .string nm] w fun e w' => (∃ v : Int, e = .returned (.int .i64 v) ∧ AtP nm d.l v) ∧ w = w' := by
  have c0 : w.cell? ⟨g, 0, none⟩ = some (.slice A d.l.length c) := h.row.cell 0
  have H := hide h
  clear h
  go_enter Try.func49, Try.ntmps49
  go_wp2
  go_loop [5] (fun i => ∃ k : Nat, k ≤ d.l.length ∧ i = .int .i64 k ∧ Hid (∀ j f, j < k → d.l[j]? = some f → f.nm ≠ nm)) (fun i => d.l.length - (intOf i).toNat)
  case atStart => exact ⟨0, by omega, rfl, fun j f hj => absurd hj (by omega)⟩
  case round =>
    obtain ⟨k, hk, rfl, hs⟩ := hrel
    by_cases hlt : k < d.l.length
    · obtain ⟨b, off, s, rfl, _, _, n0, _, _⟩ := H.out.at_ (List.getElem?_eq_getElem hlt)
      by_cases he : d.l[k].nm = nm
      · have hE : (d.l[k].nm.toList == nm.toList) = true := by rw [he]; simp
        have hF := hide (show AtP nm d.l (k : Nat) from .inr ⟨k, d.l[k], rfl, List.getElem?_eq_getElem hlt, he⟩)
        clear hs he
        go_wp2
        go_ret
        exact ⟨⟨_, rfl, hF.out⟩, rfl⟩
      · have hE : (d.l[k].nm.toList == nm.toList) = false := by
          cases hx : (d.l[k].nm.toList == nm.toList)
          · rfl
          · exact absurd (text_ext (beq_iff_eq.1 hx)) he
        have HS := hide (show ∀ j f, j < k + 1 → d.l[j]? = some f → f.nm ≠ nm from fun j f hj hf => by
          rcases Nat.lt_or_ge j k with h | h
          · exact hs.out j f h hf
          · obtain rfl : j = k := by omega
            rw [List.getElem?_eq_getElem hlt] at hf
            injection hf with hf
            rw [← hf]; exact he)
        clear hs he
        go_wp2
        go_round
        case rel => exact ⟨k + 1, by omega, by go_num, HS⟩
        case measure => simp [intOf]; omega
    · have hF := hide (show AtP nm d.l (-1) from .inl ⟨rfl, find_none.2 fun x hx => by
        obtain ⟨j, hj⟩ := List.mem_iff_getElem?.1 hx
        refine hs.out j x ?_ hj
        rcases Nat.lt_or_ge j d.l.length with h1 | h1
        · omega
        · rw [List.getElem?_eq_none h1] at hj; cases hj⟩)
      clear hs
      go_wp2
      go_ret
      exact ⟨⟨_, rfl, hF.out⟩, rfl⟩
theorem total_take : ∀ (l : List Fl) {k : Nat} (hk : k < l.length), total (l.take (k + 1)) = total (l.take k) + l[k].dt.length
  | [], k, hk => by simp at hk
  | x :: r, 0, _ => by simp [total]
  | x :: r, k + 1, hk => by
    have := total_take r (k := k) (by simpa using hk)
    rw [List.take_succ_cons, List.take_succ_cons, total_cons, total_cons, this]
    simp; omega
theorem total_take_le (l : List Fl) (k : Nat) : total (l.take k) ≤ total l := by
  have : total l = total (l.take k) + total (l.drop k) := by unfold total; rw [← List.sum_append, ← List.map_append, List.take_append_drop]
  omega
set_option maxHeartbeats 1000000 in
theorem rtotal_any (h : Rp S w g R A c d) (hok : DOk d) (hln : d.l.length ≤ 1000000) :
    Calls Try.prog 42 #[.pointer (some ⟨g, 0, none⟩)] w fun e w' => e = .returned (.int .i64 (total d.l)) ∧ w = w' := by
  have c0 : w.cell? ⟨g, 0, none⟩ = some (.slice A d.l.length c) := h.row.cell 0
  have hle : total d.l ≤ 1048576 := by have := hok.tot; have := hok.q; omega
  have H := hide h
  have hT := hide (total_take_le d.l)
  clear h hok
  go_enter Try.func42, Try.ntmps42
  go_wp2
  go_loop [3, 4] (fun s i => ∃ k : Nat, k ≤ d.l.length ∧ i = .int .i64 k ∧ s = .int .i64 (total (d.l.take k) : Nat)) (fun s i => d.l.length - (intOf i).toNat)
  case atStart => exact ⟨0, by omega, rfl, rfl⟩
  case round =>
    obtain ⟨k, hk, rfl, rfl⟩ := hrel
    by_cases hlt : k < d.l.length
    · obtain ⟨b, off, s, rfl, _, _, _, n1, _⟩ := H.out.at_ (List.getElem?_eq_getElem hlt)
      have ht1 := hT.out k
      have ht2 := hT.out (k + 1)
      have ht := total_take d.l hlt
      go_wp2
      go_round
      case rel => exact ⟨k + 1, by omega, by go_num, by rw [ht]; go_num⟩
      case measure => simp [intOf]; omega
    · have he := hide (show total (d.l.take k) = total d.l from by rw [List.take_of_length_le (by omega)])
      go_wp2
      go_ret
      exact ⟨ret_int (by rw [he.out]), rfl⟩
end
end Go.Proofs.Ytllgjbkmemheoaa
