/- A set's list. Conditions: its length has room. -/
import Derived.Test.YtnbknhgfjjgcjaaSort
import Derived.Shelf.SlSortCmp.NoneTotal
namespace Go.Proofs.Ytnbknhgfjjgcjaa
open Go.RowKit Go.Maps
theorem sortfunc_nil (w : World) : Calls Try.prog 30 #[.slice none 0 0, .func (.func 27) #[] #[]] w fun e w' => e = .returned (.tuple #[]) ∧ w' = w :=
  AnyF.slices_SortFunc_none Try.sortInst none 0 _ w
theorem own_lower {w : World} {base base' : Nat} {e : TypeId} {size : Nat} {v : Value} {n : Nat} {xs : List Value} (h : w.ownsRow base e size v n xs) (hb : base' ≤ base) : w.ownsRow base' e size v n xs :=
  ⟨h.1, h.2.imp id fun ⟨g, cap, cur, e1, hg, r⟩ => ⟨g, cap, cur, e1, Nat.le_trans hb hg, r⟩⟩
theorem keys_any (mb : Option Nat) (w : World) : Calls Try.prog 26 #[.map mb] w fun e w' =>
    e = .returned (.func (.func 31) #[] #[.pointer (some ⟨w.heap.size, 0, none⟩)]) ∧ w' = w.alloc (.cells #[.map mb] 48) := by
  go_enter Try.func26, Try.ntmps26
  go_wp2
  go_ret
  exact ⟨rfl, rfl⟩
/-- The slice that the call has made: it holds ss. -/
def Made (w w' : World) (v : Value) (ss : List (Int × Int)) : Prop := w'.ownsRow w.heap.size 25 2 v ss.length (cellsP ss) ∧ (v = .slice none 0 0 ↔ ss = []) ∧ Below w.heap.size w w'
theorem append_any (g b Bm : Nat) (l : List (Int × Int)) (w : World) (h : Set w g b l) (hBm : Bm < w.heap.size) (hm : w.cell? ⟨Bm, 0, none⟩ = some (.map (some b))) (hl : l.length ≤ 4611686018427) :
    Calls Try.prog 34 #[.slice none 0 0, .func (.func 31) #[] #[.pointer (some ⟨Bm, 0, none⟩)]] w fun e w' => ∃ v ss, e = .returned v ∧ ss.Perm l ∧ Made w w' v ss := by
  have eg : ∀ args w, (callFunc 31 args).run Try.prog w = .ok (.enter 31 args) w := enters_of Try.func31 (by kernel_rfl) rfl
  refine (callsIn_wide (n := 5)).1 ?_
  refine (appendseq_in Fence.wide 5 trivial rfl (by omega) _ _ trivial eg (fun ss => ss.Perm l) l.length (by omega) w (iter_stops Fence.wide (5 - 1) trivial rfl (by omega) Bm g b l w hBm hm h)).mono ?_
  rintro e w' ⟨v, ss, rfl, hp, h1, h2, h3⟩
  exact ⟨v, ss, rfl, hp, h1, h2, h3⟩
theorem collect_any (g b Bm : Nat) (l : List (Int × Int)) (w : World) (h : Set w g b l) (hBm : Bm < w.heap.size) (hm : w.cell? ⟨Bm, 0, none⟩ = some (.map (some b))) (hl : l.length ≤ 4611686018427) :
    Calls Try.prog 29 #[.func (.func 31) #[] #[.pointer (some ⟨Bm, 0, none⟩)]] w fun e w' => ∃ v ss, e = .returned v ∧ ss.Perm l ∧ Made w w' v ss := by
  have hc := append_any g b Bm l w h hBm hm hl
  go_enter Try.func29, Try.ntmps29
  go_wp2_with (go_at_call 34; refine hc.mono ?_; rintro e w' ⟨v, ss, rfl, hp, hM⟩)
  go_ret
  exact ⟨v, ss, rfl, hp, hM⟩
set_option maxHeartbeats 400000 in
theorem sorted_any (g b Bm : Nat) (l : List (Int × Int)) (w : World) (h : Set w g b l) (hBm : Bm < w.heap.size) (hm : w.cell? ⟨Bm, 0, none⟩ = some (.map (some b))) (hl : l.length ≤ 4611686018427) :
    Calls Try.prog 25 #[.func (.func 31) #[] #[.pointer (some ⟨Bm, 0, none⟩)], .func (.func 27) #[] #[]] w fun e w' => ∃ v, e = .returned v ∧ Made w w' v l := by
  have hc := collect_any g b Bm l w h hBm hm hl
  have hr := hide h.rise
  go_enter Try.func25, Try.ntmps25
  go_upto_region 2 with (go_at_call 29; refine hc.mono ?_; rintro e w1 ⟨v, ss, rfl, hp, hM⟩)
  obtain ⟨h1, h2, h3⟩ := hM
  have hlen := hp.length_eq
  rcases h1.2 with ⟨rfl, h0⟩ | ⟨gg, cap, cur, rfl, q1, q2, q3, q4, q5, q6⟩
  · have hss : ss = [] := h2.1 rfl
    subst hss
    have hl0 : l = [] := List.eq_nil_of_length_eq_zero hlen.symm
    subst hl0
    have H1 := hide h1
    have H3 := hide h3
    clear h1 h3 h h2
    go_wp2_with (go_at_call 30; refine (sortfunc_nil _).mono ?_; rintro e w' ⟨rfl, rfl⟩)
    go_ret
    exact ⟨_, rfl, H1.out, by simp, H3.out⟩
  · have hcon := sortfunc_any gg cap ss w1 w.heap.size q1 cur q2 q3 q4 q5 q6 (by omega)
    have H3 := hide h3
    have HN := hide h2
    have HL := hide hlen
    have HP := hide hp
    clear h1 h3 h h2 q2 q6 q5 q3 q4 hlen hp hl
    go_wp2_with (go_at_call 30; refine hcon.mono ?_; rintro e w' ⟨rfl, ts, t1, t2, t3, t4⟩)
    go_ret
    have hlen := HL.out
    have e1 := perm_sorted (t1.trans HP.out) t2 hr.out
    subst e1
    refine ⟨_, rfl, ?_, ?_, H3.out.grown t4 H3.out.size fun k hk => by cases hk; exact q1⟩
    · rw [← hlen]; exact t3
    · simp
      intro e0
      rw [e0] at hlen
      have := HN.out.2 (List.eq_nil_of_length_eq_zero hlen)
      cases this
  done
set_option maxHeartbeats 400000 in
theorem list_any (g b : Nat) (l : List (Int × Int)) (w : World) (h : Set w g b l) (hl : l.length ≤ 4611686018427) :
    Calls Try.prog 12 #[.pointer (some ⟨g, 0, none⟩)] w fun e w' => ∃ v, e = .returned v ∧ Made w w' v l := by
  have c0 : w.cell? ⟨g, 0, none⟩ = some (.map (some b)) := h.row.cell 0
  have R := Row.new w 48 #[.map (some b)]
  have hc := hide (sorted_any g b w.heap.size l (w.alloc (.cells #[.map (some b)] 48)) (h.alloc _) (by simp) (R.cell 0) hl)
  clear h R
  go_enter Try.func12, Try.ntmps12
  go_wp2_with (first
    | (go_at_call 26; refine (keys_any _ _).mono ?_; rintro e w' ⟨rfl, rfl⟩)
    | (go_at_call 25; refine hc.out.mono ?_; rintro e w' ⟨v, rfl, hM⟩))
  go_ret
  obtain ⟨m1, m2, m3⟩ := hM
  exact ⟨v, rfl, own_lower m1 (by simp), m2, ((Below.refl _ _).alloc (Nat.le_refl _) _).trans (m3.mono (by simp))⟩
end Go.Proofs.Ytnbknhgfjjgcjaa
