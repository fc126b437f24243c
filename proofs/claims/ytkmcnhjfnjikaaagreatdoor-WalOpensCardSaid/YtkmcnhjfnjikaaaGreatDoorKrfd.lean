/- Cut of the document's disk. Conditions: the slice has room. -/
import Derived.Test.YtkmcnhjfnjikaaaGreatDoorKrfc
namespace Go.Proofs.YtkmcnhjfnjikaaaGreatDoor
open Go.RowKit Go.Maps
section
variable {S : Nat → Prop} {w : World} {g : Nat} {R : List (Fl × Ps)} {A : Option Addr} {c : Nat} {d : DS} {nm : ByteArray} {m : Int}
set_option maxRecDepth 100000 in
set_option maxHeartbeats 1000000 in
theorem rcut_off (h : Rp S w g R A c d) (hok : DOk d) (hln : d.l.length ≤ 1000000) (ho : d.off = true) :
    Calls Tryz.prog 51 #[.pointer (some ⟨g, 0, none⟩), .string nm, .int .i64 m] w (Chr S w g 10 d) := by
  have c3 : w.cell? ⟨g, 3, none⟩ = some (.bool true) := by rw [← ho]; exact h.row.cell 3
  have HA := hide (at_any h nm hln)
  have H := hide (Chr.same (h.rk hok) 10)
  clear h hok ho
  go_enter Tryz.func51, Tryz.ntmps51
  go_wp2_with (go_at_call 94; (with_reducible refine HA.out.mono ?_); rintro e w' ⟨⟨v, rfl, hv⟩, rfl⟩)
  go_ret
  exact H.out
set_option maxRecDepth 100000 in
set_option maxHeartbeats 1000000 in
theorem rcut_none (h : Rp S w g R A c d) (hok : DOk d) (hln : d.l.length ≤ 1000000) (ho : d.off = false) (hf : find nm d.l = none) :
    Calls Tryz.prog 51 #[.pointer (some ⟨g, 0, none⟩), .string nm, .int .i64 m] w (Chr S w g 8 d) := by
  have c3 : w.cell? ⟨g, 3, none⟩ = some (.bool false) := by rw [← ho]; exact h.row.cell 3
  have HA := hide (at_no h hln hf)
  have H := hide (Chr.same (h.rk hok) 8)
  clear h hok ho hf
  go_enter Tryz.func51, Tryz.ntmps51
  go_wp2_with (go_at_call 94; (with_reducible refine HA.out.mono ?_); rintro e w' ⟨rfl, rfl⟩)
  go_ret
  exact H.out
set_option maxRecDepth 100000 in
set_option maxHeartbeats 1000000 in
theorem rcut_arg (h : Rp S w g R A c d) (hok : DOk d) (hln : d.l.length ≤ 1000000) (ho : d.off = false) {f : Fl} (hf : find nm d.l = some f) (hm : m < 0 ∨ (f.dt.length : Int) < m) :
    Calls Tryz.prog 51 #[.pointer (some ⟨g, 0, none⟩), .string nm, .int .i64 m] w (Chr S w g 1 d) := by
  have c3 : w.cell? ⟨g, 3, none⟩ = some (.bool false) := by rw [← ho]; exact h.row.cell 3
  obtain ⟨k, hk, hn⟩ := find_ix hf
  have HA := hide (at_yes h hok.up hln hk hn)
  obtain ⟨b, off, s, rfl, hs, hkl, _⟩ := h.at_ hk
  obtain ⟨q0, q1, _⟩ := h.look hs
  have H := hide (Chr.same (h.rk hok) 1)
  clear h hok ho hf hk hs
  rcases hm with hm | hm
  · go_enter Tryz.func51, Tryz.ntmps51
    go_wp2_with (go_at_call 94; (with_reducible refine HA.out.mono ?_); rintro e w' ⟨rfl, rfl⟩)
    go_ret
    exact H.out
  · have hm0 : ¬ m < 0 := by omega
    go_enter Tryz.func51, Tryz.ntmps51
    go_wp2_with (go_at_call 94; (with_reducible refine HA.out.mono ?_); rintro e w' ⟨rfl, rfl⟩)
    go_ret
    exact H.out
set_option maxRecDepth 100000 in
set_option maxHeartbeats 1000000 in
theorem rcut_down (h : Rp S w g R A c d) (hok : DOk d) (hln : d.l.length ≤ 1000000) (ho : d.off = false) {f : Fl} (hf : find nm d.l = some f) {t : Nat} (hm : t ≤ f.dt.length) (h0 : d.left = 0) :
    Calls Tryz.prog 51 #[.pointer (some ⟨g, 0, none⟩), .string nm, .int .i64 t] w (Chr S w g 10 d.spent) := by
  have c3 : w.cell? ⟨g, 3, none⟩ = some (.bool false) := by rw [← ho]; exact h.row.cell 3
  obtain ⟨k, hk, hn⟩ := find_ix hf
  have HA := hide (at_yes h hok.up hln hk hn)
  have hsp : d.spends = false := by unfold DS.spends; rw [h0]; rfl
  have HP := hide (hsp ▸ power_any h hok)
  obtain ⟨b, off, s, rfl, hs, hkl, _⟩ := h.at_ hk
  obtain ⟨q0, q1, _⟩ := h.look hs
  have H := hide (show ∀ w', Rp S w' g R (some ⟨b, off, none⟩) c d.spent → w.grownBy w' (some g) → Chr S w g 10 d.spent (.returned (.int .i64 10)) w' from fun w' h1 h2 => ⟨rfl, S, h1.rk (dok_spent hok), Own.grown h.sg h2⟩)
  clear h hok ho hf hk hs h0 hsp
  go_enter Tryz.func51, Tryz.ntmps51
  go_wp2_with (first | (go_at_call 94; (with_reducible refine HA.out.mono ?_); rintro e w' ⟨rfl, rfl⟩) | (go_at_call 67; (with_reducible refine HP.out.mono ?_); rintro e w1 ⟨rfl, hR, hG⟩))
  go_ret
  exact H.out _ hR hG
set_option maxRecDepth 100000 in
set_option maxHeartbeats 4000000 in
theorem rcut_do (h : Rp S w g R A c d) (hok : DOk d) (hln : d.l.length ≤ 1000000) (ho : d.off = false) {f : Fl} (hf : find nm d.l = some f) {t : Nat} (hm : t ≤ f.dt.length) (h0 : d.left ≠ 0) :
    Calls Tryz.prog 51 #[.pointer (some ⟨g, 0, none⟩), .string nm, .int .i64 t] w (Chr S w g 0 { d.spent with l := putF ⟨nm, f.dt.take t, min f.kp t⟩ d.l }) := by
  obtain ⟨i0, hi, hz0, hz1, hz2⟩ := info_parts Tryz.info5
  have HI := hide (And.intro hi (And.intro hz0 (And.intro hz1 hz2)))
  have c3 : w.cell? ⟨g, 3, none⟩ = some (.bool false) := by rw [← ho]; exact h.row.cell 3
  obtain ⟨k, hk, hn⟩ := find_ix hf
  have HA := hide (at_yes h hok.up hln hk hn)
  have hsp : d.spends = true := by unfold DS.spends; simpa using h0
  have HP := hide (hsp ▸ power_any h hok)
  obtain ⟨b, off, s, rfl, hs, hkl, _⟩ := h.at_ hk
  obtain ⟨q0, q1, _⟩ := h.look hs
  have HT := hide (show (f.dt.take t).length = t from by rw [List.length_take]; omega)
  have hfl : f.dt.length ≤ 1048576 := flen hok (List.mem_of_getElem? hk)
  have HQ := hide (show ∀ w1, Rp S w1 g R (some ⟨b, off, none⟩) c d.spent → Bpq w1.drew g k b off d.spent.l.length c s f from fun w1 h1 => (h1.bpq hs).drew)
  have HB1 := hide (show ∀ w1 w' v, Rp S w1 g R (some ⟨b, off, none⟩) c d.spent → w.grownBy w1 (some g) → Below w1.drew.heap.size w1.drew w' → w'.ownsRow w1.drew.heap.size 5 1 v t (cellsOf (f.dt.take t)) →
      ∃ s' : Ps, v = .slice s'.A t s'.2 ∧ ∃ S2, Rp S2 (w'.setCell ⟨b, off + k * 3 + 1, none⟩ v) g (R.set k (⟨f.nm, f.dt.take t, f.kp⟩, s')) (some ⟨b, off, none⟩) c { d.spent with l := d.spent.l.set k ⟨f.nm, f.dt.take t, f.kp⟩ } ∧ Own S w S2 (w'.setCell ⟨b, off + k * 3 + 1, none⟩ v) from by
    intro w1 w' v h1 hG hb hv
    obtain ⟨s', e, S2, h2, h3⟩ := h1.drew.bytes hs hb HT.out hv
    exact ⟨s', e, S2, h2, (Own.grown h.sg hG).trans (own_drew h3)⟩)
  have HB2 := hide (show ∀ w2 S2 s', Rp S2 w2 g (R.set k (⟨f.nm, f.dt.take t, f.kp⟩, s')) (some ⟨b, off, none⟩) c { d.spent with l := d.spent.l.set k ⟨f.nm, f.dt.take t, f.kp⟩ } → Own S w S2 w2 →
      Bpq w2 g k b off (d.spent.l.set k ⟨f.nm, f.dt.take t, f.kp⟩).length c s' ⟨f.nm, f.dt.take t, f.kp⟩ ∧ Chr S w g 0 { d.spent with l := putF ⟨nm, f.dt.take t, min f.kp t⟩ d.l } (.returned (.int .i64 0)) (w2.setCell ⟨b, off + k * 3 + 2, none⟩ (.int .i64 (min (f.kp : Int) (t : Int)))).drew from by
    intro w2 S2 s' h2 hO
    have hkR : k < R.length := (List.getElem?_eq_some_iff.1 hs).1
    have hs2 : (R.set k ((⟨f.nm, f.dt.take t, f.kp⟩ : Fl), s'))[k]? = some (⟨f.nm, f.dt.take t, f.kp⟩, s') := by rw [List.getElem?_set_self hkR]
    obtain ⟨S3, h3, hO3⟩ := h2.keeps hs2 (min f.kp t)
    have hm2 := List.mem_of_getElem? hk
    have hok2 : DOk { d.spent with l := putF ⟨nm, f.dt.take t, min f.kp t⟩ d.l } := by
      have := dok_put (dok_spent hok) ⟨nm, f.dt.take t, min f.kp t⟩ (by have := HT.out; simp only; omega) (by rw [← hn]; exact hok.nm f hm2) (fun z hz => hok.oct f hm2 z (List.mem_of_mem_take hz)) (by
        rw [spent_l, spent_q]; simp only; rw [hf, HT.out]; simp only [lenO]; have := hok.tot; omega)
      rw [spent_l] at this; exact this
    simp only [List.set_set] at h3
    rw [show ((min f.kp t : Nat) : Int) = min (f.kp : Int) (t : Int) by omega] at h3 hO3
    rw [spent_l, show d.l.set k (⟨f.nm, f.dt.take t, min f.kp t⟩ : Fl) = putF ⟨nm, f.dt.take t, min f.kp t⟩ d.l from by rw [hn]; exact (putF_set hn.symm hok.up hk).symm] at h3
    exact ⟨h2.bpq hs2, rfl, _, (h3.below (below_drew _)).rk hok2, own_drewr (hO.trans hO3)⟩)
  clear h hok ho hf hk hs h0 hsp hi hz0 hz1 hz2 hn
  go_enter Tryz.func51, Tryz.ntmps51
  go_upto_region 10 with (first | (go_at_call 94; (with_reducible refine HA.out.mono ?_); rintro e w' ⟨rfl, rfl⟩) | (go_at_call 67; (with_reducible refine HP.out.mono ?_); rintro e w1 ⟨rfl, hR, hG⟩))
  have QQ := hide (HQ.out _ hR)
  have FIN := hide (fun w' v => HB1.out _ w' v hR hG)
  have hknl := QQ.out.hk
  clear HQ HB1 hR hG HA HP c3 q0 q1
  have hcs : t ≤ s.2 := Nat.le_trans hm QQ.out.cap
  refine wp_region_noPanic ?_
  refine wp_region_T 19 (fun w' => w'.cell? ⟨g, 0, none⟩ = some (.slice (some ⟨b, off, none⟩) d.spent.l.length c) ∧ w'.cell? ⟨b, off + k * 3 + 1, none⟩ = some (.slice s.A f.dt.length s.2)) (by kernel_rfl) ?_
  generalize World.drew _ = wd at QQ FIN ⊢
  refine anyT_take (i := 0) (v := ?ov0) (by simp only [List.getElem?_toArray, List.getElem?_cons_zero]; exact rfl) (by kernel_rfl) (by kernel_rfl) (fun _ _ _ h => h) (by kernel_rfl) (by kernel_rfl) (Or.inl ⟨by rfl, ?oy0⟩) (by with_reducible exact (QQ.out.two (Below.refl _ _))) ?or0
  case oy0 => (intro w hSw; (try dsimp only at hSw); go_simp; try with_reducible rfl)
  try simp only [Act.put, List.setIfInBounds_toArray, List.set_cons_zero, List.set_cons_succ]
  refine anyT_take (i := 1) (v := ?ov1) (by simp only [List.getElem?_toArray, List.getElem?_cons_succ, List.getElem?_cons_zero]; exact rfl) (by kernel_rfl) (by kernel_rfl) (fun _ _ _ h => h) (by kernel_rfl) (by kernel_rfl) (Or.inl ⟨by rfl, ?oy1⟩) (by with_reducible exact (QQ.out.two (Below.refl _ _))) ?or1
  case oy1 => (intro w hSw; (try dsimp only at hSw); go_simp; try with_reducible rfl)
  try simp only [Act.put, List.setIfInBounds_toArray, List.set_cons_zero, List.set_cons_succ]
  refine anyT_take (i := 2) (v := ?ov2) (by simp only [List.getElem?_toArray, List.getElem?_cons_succ, List.getElem?_cons_zero]; exact rfl) (by kernel_rfl) (by kernel_rfl) (fun _ _ _ h => h) (by kernel_rfl) (by kernel_rfl) (Or.inl ⟨by rfl, ?oy2⟩) (by with_reducible exact (QQ.out.two (Below.refl _ _))) ?or2
  case oy2 => (intro w hSw; (try dsimp only at hSw); go_simp; try with_reducible rfl)
  try simp only [Act.put, List.setIfInBounds_toArray, List.set_cons_zero, List.set_cons_succ]
  refine anyT_take (i := 3) (v := ?ov3) (by simp only [List.getElem?_toArray, List.getElem?_cons_succ, List.getElem?_cons_zero]; exact rfl) (by kernel_rfl) (by kernel_rfl) (fun _ _ _ h => h) (by kernel_rfl) (by kernel_rfl) (Or.inl ⟨by rfl, ?oy3⟩) (by with_reducible exact (QQ.out.two (Below.refl _ _))) ?or3
  case oy3 => (intro w hSw; (try dsimp only at hSw); go_simp; try with_reducible rfl)
  try simp only [Act.put, List.setIfInBounds_toArray, List.set_cons_zero, List.set_cons_succ]
  refine anyT_take (i := 4) (v := ?ov4) (by simp only [List.getElem?_toArray, List.getElem?_cons_succ, List.getElem?_cons_zero]; exact rfl) (by kernel_rfl) (by kernel_rfl) (fun _ _ _ h => h) (by kernel_rfl) (by kernel_rfl) (Or.inl ⟨by rfl, ?oy4⟩) (by with_reducible exact (QQ.out.two (Below.refl _ _))) ?or4
  case oy4 => (intro w hSw; (try dsimp only at hSw); go_simp; try with_reducible rfl)
  try simp only [Act.put, List.setIfInBounds_toArray, List.set_cons_zero, List.set_cons_succ]
  refine anyT_take (i := 6) (v := ?ov6) (by simp only [List.getElem?_toArray, List.getElem?_cons_succ, List.getElem?_cons_zero]; exact rfl) (by kernel_rfl) (by kernel_rfl) (fun _ _ _ h => h) (by kernel_rfl) (by kernel_rfl) (Or.inl ⟨by rfl, ?oy6⟩) (by with_reducible exact (QQ.out.two (Below.refl _ _))) ?or6
  case oy6 => (intro w hSw; (try dsimp only at hSw); go_simp; try with_reducible rfl)
  try simp only [Act.put, List.setIfInBounds_toArray, List.set_cons_zero, List.set_cons_succ]
  refine anyT_take (i := 7) (v := ?ov7) (by simp only [List.getElem?_toArray, List.getElem?_cons_succ, List.getElem?_cons_zero]; exact rfl) (by kernel_rfl) (by kernel_rfl) (fun _ _ _ h => h) (by kernel_rfl) (by kernel_rfl) (Or.inl ⟨by rfl, ?oy7⟩) (by with_reducible exact (QQ.out.two (Below.refl _ _))) ?or7
  case oy7 => (intro w hSw; (try dsimp only at hSw); go_simp; try with_reducible rfl)
  try simp only [Act.put, List.setIfInBounds_toArray, List.set_cons_zero, List.set_cons_succ]
  refine anyT_take (i := 8) (v := ?ov8) (by simp only [List.getElem?_toArray, List.getElem?_cons_succ, List.getElem?_cons_zero]; exact rfl) (by kernel_rfl) (by kernel_rfl) (fun _ _ _ h => h) (by kernel_rfl) (by kernel_rfl) (Or.inl ⟨by rfl, ?oy8⟩) (by with_reducible exact (QQ.out.two (Below.refl _ _))) ?or8
  case oy8 => (intro w hSw; (try dsimp only at hSw); go_simp; try with_reducible rfl)
  try simp only [Act.put, List.setIfInBounds_toArray, List.set_cons_zero, List.set_cons_succ]
  refine anyT_take (i := 9) (v := ?ov9) (by simp only [List.getElem?_toArray, List.getElem?_cons_succ, List.getElem?_cons_zero]; exact rfl) (by kernel_rfl) (by kernel_rfl) (fun _ _ _ h => h) (by kernel_rfl) (by kernel_rfl) (Or.inl ⟨by rfl, ?oy9⟩) (by with_reducible exact (QQ.out.two (Below.refl _ _))) ?or9
  case oy9 => (intro w hSw; (try dsimp only at hSw); go_simp; try with_reducible rfl)
  try simp only [Act.put, List.setIfInBounds_toArray, List.set_cons_zero, List.set_cons_succ]
  refine anyT_take (i := 10) (v := ?ov10) (by simp only [List.getElem?_toArray, List.getElem?_cons_succ, List.getElem?_cons_zero]; exact rfl) (by kernel_rfl) (by kernel_rfl) (fun _ _ _ h => h) (by kernel_rfl) (by kernel_rfl) (Or.inl ⟨by rfl, ?oy10⟩) (by with_reducible exact (QQ.out.two (Below.refl _ _))) ?or10
  case oy10 => (intro w hSw; (try dsimp only at hSw); go_simp; try with_reducible rfl)
  try simp only [Act.put, List.setIfInBounds_toArray, List.set_cons_zero, List.set_cons_succ]
  refine anyT_take (i := 11) (v := ?ov11) (by simp only [List.getElem?_toArray, List.getElem?_cons_succ, List.getElem?_cons_zero]; exact rfl) (by kernel_rfl) (by kernel_rfl) (fun _ _ _ h => h) (by kernel_rfl) (by kernel_rfl) (Or.inl ⟨by rfl, ?oy11⟩) (by with_reducible exact (QQ.out.two (Below.refl _ _))) ?or11
  case oy11 => (intro w hSw; (try dsimp only at hSw); go_simp; try with_reducible rfl)
  try simp only [Act.put, List.setIfInBounds_toArray, List.set_cons_zero, List.set_cons_succ]
  refine anyT_take (i := 12) (v := ?ov12) (by simp only [List.getElem?_toArray, List.getElem?_cons_succ, List.getElem?_cons_zero]; exact rfl) (by kernel_rfl) (by kernel_rfl) (fun _ _ _ h => h) (by kernel_rfl) (by kernel_rfl) (Or.inl ⟨by rfl, ?oy12⟩) (by with_reducible exact (QQ.out.two (Below.refl _ _))) ?or12
  case oy12 => (intro w hSw; (try dsimp only at hSw); go_simp; try with_reducible rfl)
  try simp only [Act.put, List.setIfInBounds_toArray, List.set_cons_zero, List.set_cons_succ]
  refine anyT_take (i := 13) (v := ?ov13) (by simp only [List.getElem?_toArray, List.getElem?_cons_succ, List.getElem?_cons_zero]; exact rfl) (by kernel_rfl) (by kernel_rfl) (fun _ _ _ h => h) (by kernel_rfl) (by kernel_rfl) (Or.inl ⟨by rfl, ?oy13⟩) (by with_reducible exact (QQ.out.two (Below.refl _ _))) ?or13
  case oy13 => (intro w hSw; (try dsimp only at hSw); go_simp; try with_reducible rfl)
  try simp only [Act.put, List.setIfInBounds_toArray, List.set_cons_zero, List.set_cons_succ]
  refine anyT_take (i := 14) (v := ?ov14) (by simp only [List.getElem?_toArray, List.getElem?_cons_succ, List.getElem?_cons_zero]; exact rfl) (by kernel_rfl) (by kernel_rfl) (fun _ _ _ h => h) (by kernel_rfl) (by kernel_rfl) (Or.inl ⟨by rfl, ?oy14⟩) (by with_reducible exact (QQ.out.two (Below.refl _ _))) ?or14
  case oy14 => (intro w hSw; (try dsimp only at hSw); go_simp; try with_reducible rfl)
  try simp only [Act.put, List.setIfInBounds_toArray, List.set_cons_zero, List.set_cons_succ]
  refine anyT_take (i := 15) (v := ?ov15) (by simp only [List.getElem?_toArray, List.getElem?_cons_succ, List.getElem?_cons_zero]; exact rfl) (by kernel_rfl) (by kernel_rfl) (fun _ _ _ h => h) (by kernel_rfl) (by kernel_rfl) (Or.inl ⟨by rfl, ?oy15⟩) (by with_reducible exact (QQ.out.two (Below.refl _ _))) ?or15
  case oy15 => (intro w hSw; (try dsimp only at hSw); go_simp; try with_reducible rfl)
  try simp only [Act.put, List.setIfInBounds_toArray, List.set_cons_zero, List.set_cons_succ]
  have HB := hide (Below.refl wd.heap.size wd)
  refine anyT_one (i := 5) (by kernel_rfl) (by simp only [List.getElem?_toArray, List.getElem?_cons_succ, List.getElem?_cons_zero]; exact rfl) (fun K hK => ?_)
  go_simp
  have HBN := hide (HB.out.alloc HB.out.size (.cells #[] 5))
  have HG := hide (show (wd.alloc (.cells #[] 5)).ownsRow wd.heap.size 5 1 (.slice (some ⟨wd.heap.size, 0, none⟩) 0 0) 0 (cellsOf []) from wd.ownsRow_made #[] 0 (Nat.le_refl _) (by unfold maxLen; omega) rfl)
  refine hK.out _ _ (fun _ => QQ.out.two HBN.out) ?_
  clear hK K HB
  try simp only [Act.put, List.setIfInBounds_toArray, List.set_cons_zero, List.set_cons_succ]
  generalize World.alloc wd _ = wa at HBN HG ⊢
  have HB := HBN
  clear HBN
  refine anyT_one (i := 16) (by kernel_rfl) (by simp only [List.getElem?_toArray, List.getElem?_cons_succ, List.getElem?_cons_zero]; exact rfl) (fun K hK => ?_)
  refine step_append_bytes (by rfl) (.tmp 44) (.tmp 54) 31 (by rfl) wd.heap.size 5 i0 _ Tryz.underlying31 HI.out.1 HI.out.2.1 HI.out.2.2.1 HI.out.2.2.2 rfl _ 0 [] (by rfl) HG.out s.A t s.2 (f.dt.take t) (by rfl) HT.out QQ.out.nil ((QQ.out.old.below HB.out).take t) (by omega) HB.out.size (fun v1 w14 hO hb => ?_)
  have HBN := hide (HB.out.trans hb)
  rw [Nat.zero_add, List.nil_append] at hO
  obtain ⟨s', rfl, S2, hR2, hO2⟩ := FIN.out _ _ HBN.out hO
  have HF2 := hide (HB2.out _ _ _ hR2 hO2)
  clear hR2 hO2 HB2 FIN
  refine hK.out _ _ (fun _ => QQ.out.two HBN.out) ?_
  clear hK K HB HG hO hb
  try simp only [Act.put, List.setIfInBounds_toArray, List.set_cons_zero, List.set_cons_succ]
  have HB := HBN
  clear HBN
  refine anyT_one (i := 17) (by kernel_rfl) (by simp only [List.getElem?_toArray, List.getElem?_cons_succ, List.getElem?_cons_zero]; exact rfl) (fun K hK => ?_)
  go_simp
  refine hK.out _ _ (fun _ => QQ.out.two HB.out) ?_
  clear hK K
  try simp only [Act.put, List.setIfInBounds_toArray, List.set_cons_zero, List.set_cons_succ]
  refine anyT_one (i := 18) (by kernel_rfl) (by simp only [List.getElem?_toArray, List.getElem?_cons_succ, List.getElem?_cons_zero]; exact rfl) (fun K hK => ?_)
  go_simp
  refine hK.out _ _ (fun _ => QQ.out.two HB.out) ?_
  clear hK K
  try simp only [Act.put, List.setIfInBounds_toArray, List.set_cons_zero, List.set_cons_succ]
  refine anyT_one (i := 19) (by kernel_rfl) (by simp only [List.getElem?_toArray, List.getElem?_cons_succ, List.getElem?_cons_zero]; exact rfl) (fun K hK => ?_)
  have f0 : World.frozen? _ ⟨b, off + k * 3 + 1, none⟩ = false := frozen_below QQ.out.f1 HB.out QQ.out.hb
  have f1 := (QQ.out.two HB.out).2
  go_simp
  refine hK.out _ _ (fun e => absurd rfl e) ?_
  clear hK K f0 f1
  refine anyT_done (by kernel_rfl) ?_
  refine NoPanic.normal ?_
  clear QQ HB HI HT
  generalize World.setCell _ _ _ = w2 at HF2 ⊢
  have q0 := HF2.out.1.c0
  have q1 := HF2.out.1.c1
  have q2 := HF2.out.1.c2
  have z2 := HF2.out.1.f2
  have hkn2 := HF2.out.1.hk
  have HH := hide HF2.out.2
  clear HF2
  go_upto_region 11 with fail
  go_region
  go_wp2
  go_ret
  exact HH.out
theorem rcut_any (h : Rp S w g R A c d) (hok : DOk d) (hln : d.l.length ≤ 1000000) (m : Int) :
    Calls Tryz.prog 51 #[.pointer (some ⟨g, 0, none⟩), .string nm, .int .i64 m] w (Chr S w g (cutE d nm m) (cutS d nm m)) := by
  unfold cutE cutS
  cases ho : d.off with
  | true => rw [if_pos rfl, if_pos rfl]; exact rcut_off h hok hln ho
  | false =>
    rw [if_neg Bool.false_ne_true, if_neg Bool.false_ne_true]
    cases hf : find nm d.l with
    | none => exact rcut_none h hok hln ho hf
    | some f =>
      simp only
      by_cases hm : m < 0 ∨ (f.dt.length : Int) < m
      · rw [if_pos hm, if_pos hm]; exact rcut_arg h hok hln ho hf hm
      · rw [if_neg hm, if_neg hm]
        obtain ⟨t, rfl⟩ : ∃ t : Nat, m = t := ⟨m.toNat, by omega⟩
        by_cases h0 : d.left = 0
        · rw [if_pos h0, if_pos h0]; exact rcut_down h hok hln ho hf (by omega) h0
        · rw [if_neg h0, if_neg h0]; exact rcut_do h hok hln ho hf (by omega) h0
end
end Go.Proofs.YtkmcnhjfnjikaaaGreatDoor
/- Rename of the document's disk. Conditions: the slice has room. -/
namespace Go.Proofs.YtkmcnhjfnjikaaaGreatDoor
open Go.RowKit Go.Maps
section
variable {S S3 S4 : Nat → Prop} {w w1 w2 w3 w4 : World} {g : Nat} {R R4 : List (Fl × Ps)} {A : Option Addr} {c c4 : Nat} {d e : DS} {nm tn : ByteArray} {l4 : List Fl}
theorem Rp.wider (h : Rp S w g R A c d) (T : Nat → Prop) (hT : ∀ k, T k → k < w.heap.size) : Rp (fun k => S k ∨ T k) w g R A c d :=
  ⟨fun k hk => hk.elim (h.lt k) (hT k), h.row, h.ls, h.own, h.dat, .inl h.sg, fun a ha => .inl (h.sA a ha), fun x hx r hr => .inl (h.sd x hx r hr)⟩
theorem dat_turned {s : Ps} {f : Fl} (h : Rp S w g R A c d) (hs : (f, s) ∈ R) (hT : Turn (fun k => k = g) w w4) : w4.ownsRow 0 5 1 (.slice s.A f.dt.length s.2) f.dt.length (cellsOf f.dt) := by
  have ho := h.dat _ hs
  refine own_same ho fun a ha => ?_
  rcases ho.2 with ⟨hv, _⟩ | ⟨q, cap, cur, hv, _, hh, _⟩
  · injection hv with hv; simp only at hv; rw [hv] at ha; cases ha
  · injection hv with hv; simp only at hv; rw [hv] at ha; injection ha with ha; rw [← ha]
    exact hT.block q (Array.getElem?_eq_some_iff.1 hh).1 (kind_ne hh h.row (by decide))
/-- A file's bytes and what is kept of them come to another place. -/
theorem Rp.ren {b off i : Nat} {f f4 : Fl} {s s4 : Ps} (h1 : Rp S w1 g R A c e) (hs : (f, s) ∈ R) (hb : Below w1.heap.size w1 w2) (hO3 : Own S w2 S3 w3) (hT3 : Turn (fun k => k = g) w2 w3)
    (h4 : Rp S4 w4 g R4 (some ⟨b, off, none⟩) c4 { e with l := l4 }) (hO4 : Own S3 w3 S4 w4) (hT4 : Turn (fun k => k = g) w3 w4) (hs4 : R4[i]? = some (f4, s4)) :
    ∃ S5 R5, Rp S5 ((w4.setCell ⟨b, off + i * 3 + 1, none⟩ (.slice s.A f.dt.length s.2)).setCell ⟨b, off + i * 3 + 2, none⟩ (.int .i64 f.kp)) g R5 (some ⟨b, off, none⟩) c4 { e with l := l4.set i ⟨f4.nm, f.dt, f.kp⟩ } ∧
      Own S w1 S5 ((w4.setCell ⟨b, off + i * 3 + 1, none⟩ (.slice s.A f.dt.length s.2)).setCell ⟨b, off + i * 3 + 2, none⟩ (.int .i64 f.kp)) := by
  have hT : Turn (fun k => k = g) w1 w4 := ((Turn.of_below hb).trans hT3 (fun k hk => .inl hk)).trans hT4 (fun k hk => .inl hk)
  have hO : Own S w1 S4 w4 := ⟨(Turn.of_below hb).trans (hO3.trans hO4).turn (fun k hk => .inl hk), fun k hk => ((hO3.trans hO4).new k hk).imp id (Nat.le_trans hb.size)⟩
  have hd := dat_turned h1 hs hT
  have hsz : ∀ r, s.1 = some r → S r ∧ r < w4.heap.size := fun r hr => by
    have := h1.sd _ hs r hr
    exact ⟨this, Nat.lt_of_lt_of_le (h1.lt r this) hT.size⟩
  have h5 := h4.wider (fun k => s.1 = some k) (fun k hk => (hsz k hk).2)
  have hO5 : Own S w1 (fun k => S4 k ∨ s.1 = some k) w4 := ⟨hO.turn, fun k hk => hk.elim (hO.new k) fun e => .inl (hsz k e).1⟩
  have hiR : i < R4.length := (List.getElem?_eq_some_iff.1 hs4).1
  obtain ⟨⟨h6, hT6⟩, _⟩ := h5.store (Below.refl _ _) (i := 1) (u := .slice s.A f.dt.length s.2) (y := (⟨f4.nm, f.dt, f4.kp⟩, s)) rfl hs4 (by omega) rfl hd (fun r hr => .inl (.inr hr))
  obtain ⟨S7, h7, hO7⟩ := h6.keeps (k := i) (f := ⟨f4.nm, f.dt, f4.kp⟩) (s := s) (by rw [List.getElem?_set_self hiR]) f.kp
  simp only [List.set_set] at h7
  exact ⟨S7, _, h7, (hO5.trans (Own.more hT6)).trans hO7⟩
end
end Go.Proofs.YtkmcnhjfnjikaaaGreatDoor
/- Crash of the document's disk. Conditions: the picks lie apart and are ints; the slice has room. -/
namespace Go.Proofs.YtkmcnhjfnjikaaaGreatDoor
open Go.RowKit Go.Maps
/-- Behind a crash there is power. -/
def upS (d : DS) (l : List Fl) : DS := { d with l := l, left := -1, off := false }
/-- What holds at the head of round k. -/
structure Crr (S : Nat → Prop) (w : World) (g : Nat) (d : DS) (ps : List Int) (A : Option Addr) (c k : Nat) (wr : World) : Prop where
  disk : ∃ S' R', Rp S' wr g R' A c (upS d (torn ps k d.l)) ∧ Own S w S' wr
  ok : DOk (upS d (torn ps k d.l))
section
variable {S : Nat → Prop} {w wr : World} {g : Nat} {R : List (Fl × Ps)} {A P : Option Addr} {c k : Nat} {d : DS} {ps : List Int}
theorem torn_len (ps : List Int) (k : Nat) (l : List Fl) : (torn ps k l).length = l.length := by
  have := congrArg List.length (torn_nms ps k l)
  simpa using this
theorem torn_at {x : Fl} {l : List Fl} (hx : l[k]? = some x) : (torn ps k l)[k]? = some x := by
  have hk : k < l.length := (List.getElem?_eq_some_iff.1 hx).1
  have ht : (tears ps 0 (l.take k)).length = k := by rw [tears_length, List.length_take]; omega
  unfold torn
  rw [List.getElem?_append_right (by omega), ht, Nat.sub_self, List.getElem?_drop, Nat.add_zero]
  exact hx
/-- How many bytes stay. -/
def stays (ps : List Int) (k : Nat) (x : Fl) : Nat := x.kp + (pickAt ps k % ((x.dt.length : Int) - x.kp + 1)).toNat
theorem Crr.round {x : Fl} (h : Crr S w g d ps A c k wr) (hx : d.l[k]? = some x) : ∃ b off s, A = some ⟨b, off, none⟩ ∧ Bpq wr g k b off d.l.length c s x ∧ x.kp ≤ x.dt.length ∧ x.dt.length ≤ 1048576 ∧
    ∀ w' v t, t = stays ps k x → t ≤ x.dt.length → Below wr.drew.heap.size wr.drew w' → w'.ownsRow wr.drew.heap.size 5 1 v t (cellsOf (x.dt.take t)) →
      ∃ s' : Ps, v = .slice s'.A t s'.2 ∧ (∃ n0, Bpq (w'.setCell ⟨b, off + k * 3 + 1, none⟩ v) g k b off n0 c s' ⟨x.nm, x.dt.take t, x.kp⟩) ∧ Crr S w g d ps A c (k + 1) ((w'.setCell ⟨b, off + k * 3 + 1, none⟩ v).setCell ⟨b, off + k * 3 + 2, none⟩ (.int .i64 (t : Nat))) := by
  obtain ⟨S', R', hR, hO⟩ := h.disk
  have hat := torn_at (ps := ps) hx
  have hup : Up (torn ps k d.l) := h.ok.up
  obtain ⟨b, off, s, rfl, hs, _⟩ := hR.at_ (k := k) (f := x) hat
  have hb := hR.bpq hs
  have e1 : (upS d (torn ps k d.l)).l.length = d.l.length := torn_len ps k d.l
  rw [e1] at hb
  have hm : x ∈ torn ps k d.l := List.mem_of_getElem? hat
  refine ⟨b, off, s, rfl, hb, h.ok.kp x hm, flen h.ok hm, fun w' v t ht htl hbl hv => ?_⟩
  have hl : (x.dt.take t).length = t := by rw [List.length_take]; omega
  obtain ⟨s', rfl, S2, h2, hO2⟩ := hR.drew.bytes hs hbl hl hv
  have hkR : k < R'.length := (List.getElem?_eq_some_iff.1 hs).1
  have hs2 : (R'.set k ((⟨x.nm, x.dt.take t, x.kp⟩ : Fl), s'))[k]? = some (⟨x.nm, x.dt.take t, x.kp⟩, s') := by rw [List.getElem?_set_self hkR]
  obtain ⟨S3, h3, hO3⟩ := h2.keeps hs2 t
  refine ⟨s', rfl, ⟨_, h2.bpq hs2⟩, ⟨⟨S3, R'.set k (⟨x.nm, x.dt.take t, t⟩, s'), ?_, hO.trans ((own_drew hO2).trans hO3)⟩, ?_⟩⟩
  · have et : torn ps (k + 1) d.l = (torn ps k d.l).set k ⟨x.nm, x.dt.take t, t⟩ := by
      have h1 := torn_step ps (up_nms hup (torn_nms ps k d.l).symm) hx
      rw [← h1, putF_set (f := x) (f' := tear x (pickAt ps k)) rfl hup hat]
      unfold tear
      simp only
      rw [show x.kp + (pickAt ps k % ((x.dt.length : Int) - x.kp + 1)).toNat = t from ht.symm]
    simp only [List.set_set] at h3
    rw [et]
    exact h3
  · have h1 := torn_step ps (up_nms hup (torn_nms ps k d.l).symm) hx
    rw [← h1]
    have ef : find (tear x (pickAt ps k)).nm (torn ps k d.l) = some x := find_at hup hat
    have htt : (tear x (pickAt ps k)) = ⟨x.nm, x.dt.take t, t⟩ := by unfold tear; simp only; rw [show x.kp + (pickAt ps k % ((x.dt.length : Int) - x.kp + 1)).toNat = t from ht.symm]
    rw [htt] at ef ⊢
    have := dok_put h.ok ⟨x.nm, x.dt.take t, t⟩ (by simp only [hl]; exact Nat.le_refl _) (h.ok.nm x hm) (fun z hz => h.ok.oct x hm z (List.mem_of_mem_take hz)) (by
      rw [show find (⟨x.nm, x.dt.take t, t⟩ : Fl).nm (upS d (torn ps k d.l)).l = some x from ef]
      simp only [lenO, hl]; have := h.ok.tot; omega)
    exact this
theorem Crr.c0 (h : Crr S w g d ps A c k wr) : wr.cell? ⟨g, 0, none⟩ = some (.slice A d.l.length c) := by
  obtain ⟨S', R', hR, hO⟩ := h.disk
  have := hR.c0
  rw [show (upS d (torn ps k d.l)).l.length = d.l.length from torn_len ps k d.l] at this
  exact this
theorem Crr.start (h : Rp S w g R A c d) (hok : DOk d) : Crr S w g d ps A c 0 ((w.setCell ⟨g, 3, none⟩ (.bool false)).setCell ⟨g, 2, none⟩ (.int .i64 (-1))) := by
  have hg := grown_put (grown_put (grown_refl w (some g)) 3 (.bool false)) 2 (.int .i64 (-1))
  refine ⟨⟨S, R, h.cells (e := upS d d.l) hg ((h.row.put 3 (.bool false)).put 2 (.int .i64 (-1))) rfl, Own.grown h.sg hg⟩, ?_⟩
  exact dok_cells hok rfl rfl (by unfold upS; simp only; omega)
theorem Crr.done (h : Crr S w g d ps A c d.l.length wr) : ∃ S', Rk S' wr g (craS d ps) ∧ Own S w S' wr := by
  obtain ⟨S', R', hR, hO⟩ := h.disk
  have ho := h.ok
  rw [torn_all] at hR ho
  exact ⟨S', hR.rk ho, hO⟩
set_option maxRecDepth 100000 in
set_option maxHeartbeats 8000000 in
theorem rcrash_any (n cp : Nat) (h : Rp S w g R A c d) (hok : DOk d) (hln : d.l.length ≤ 1000000) (hp : LiesI w P ps) (hpn : ps.length = n) (hpx : n ≤ 4611686018427387904) (hout : Out S P ps) (hpb : ∀ p, p ∈ ps → -9223372036854775808 ≤ p ∧ p ≤ 9223372036854775807) :
    Calls Tryz.prog 25 #[.pointer (some ⟨g, 0, none⟩), .slice P n cp] w fun e w' => e = .returned (.tuple #[]) ∧ ∃ S', Rk S' w' g (craS d ps) ∧ Own S w S' w' := by
  obtain ⟨i0, hi, hz0, hz1, hz2⟩ := info_parts Tryz.info5
  have HI := hide (And.intro hi (And.intro hz0 (And.intro hz1 hz2)))
  subst hpn
  have hb := hide (pick_bound hpb)
  have HPK := hide (show ∀ wr, Own S w S wr ∨ (∃ S', Own S w S' wr) → LiesI wr P ps from fun wr ho => by
    rcases ho with ho | ⟨S', ho⟩
    · exact hp.turn ho.turn hout
    · exact hp.turn ho.turn hout)
  have HS := hide (Crr.start (ps := ps) h hok)
  have c2 : w.cell? ⟨g, 2, none⟩ = some (.int .i64 d.left) := h.row.cell 2
  have c3 : w.cell? ⟨g, 3, none⟩ = some (.bool d.off) := h.row.cell 3
  have f2 : w.frozen? ⟨g, 2, none⟩ = false := h.row.free 2
  have f3 : w.frozen? ⟨g, 3, none⟩ = false := h.row.free 3
  clear h hok hp hout hpb hi hz0 hz1 hz2
  go_enter Tryz.func25, Tryz.ntmps25
  go_upto_region 1 with fail
  generalize World.setCell _ _ _ = w1 at HS ⊢
  clear c2 c3 f2 f3
  go_wp2
  go_loopw [4] (fun i wr => ∃ k : Nat, k ≤ d.l.length ∧ i = .int .i64 k ∧ Hid (Crr S w g d ps A c k wr)) (fun i _ => d.l.length - (intOf i).toNat)
  case atStart => exact ⟨0, by omega, rfl, HS⟩
  case round =>
    clear HS
    obtain ⟨k, hk, rfl, hC⟩ := hrel
    have c0 := hC.out.c0
    by_cases hlt : k < d.l.length
    · obtain ⟨x, hx⟩ : ∃ x, d.l[k]? = some x := ⟨_, List.getElem?_eq_getElem hlt⟩
      have hpk := hb.out k
      obtain ⟨b, off, s, rfl, hbq, hkp, hxl, hend⟩ := hC.out.round hx
      have HE := hide hend
      have HB0 := hide hbq
      have HC := hide (HPK.out wr (.inr (by obtain ⟨S', R', _, hO⟩ := hC.out.disk; exact ⟨S', hO⟩)))
      have hm0 := Int.emod_nonneg (pickAt ps k) (show (x.dt.length : Int) - x.kp + 1 ≠ 0 by omega)
      have hm1 := Int.emod_lt_of_pos (pickAt ps k) (show 0 < (x.dt.length : Int) - x.kp + 1 by omega)
      obtain ⟨r, hr⟩ : ∃ r : Nat, pickAt ps k % ((x.dt.length : Int) - x.kp + 1) = r := ⟨(pickAt ps k % ((x.dt.length : Int) - x.kp + 1)).toNat, by omega⟩
      obtain ⟨t, ht⟩ : ∃ t : Nat, t = x.kp + r := ⟨_, rfl⟩
      have htl : t ≤ x.dt.length := by rw [hr] at hm1; omega
      have HT := hide (show t = stays ps k x from by unfold stays; rw [hr, ht]; rfl)
      have HL := hide (show (x.dt.take t).length = t from by rw [List.length_take]; omega)
      have z0 : ¬ ((x.dt.length : Int) - x.kp + 1 = 0) := by omega
      have e1 : IntKind.i64.wrap ((x.dt.length : Int) - x.kp) = (x.dt.length : Int) - x.kp := IntWalk.i64_in _ (by omega)
      have e2 : IntKind.i64.wrap ((x.dt.length : Int) - x.kp + 1) = (x.dt.length : Int) - x.kp + 1 := IntWalk.i64_in _ (by omega)
      have e3 : (pickAt ps k).tmod ((x.dt.length : Int) - x.kp + 1) = r := by rw [Int.tmod_eq_emod_of_nonneg hpk.1, hr]
      have e4 : IntKind.i64.wrap ((x.kp : Int) + r) = (t : Int) := by rw [ht, IntWalk.i64_in _ (by omega)]; omega
      have e8 : IntKind.i64.wrap (t : Int) = (t : Int) := IntWalk.i64_in _ (by omega)
      have hcs : t ≤ s.2 := Nat.le_trans htl hbq.cap
      clear hend hbq hC hm0 hm1 hx
      by_cases hps : k < ps.length
      · obtain ⟨b1, o1, rfl, _, a0⟩ := HC.out.at_ hps
        rw [pick_in ps k] at e3
        generalize ix ps k = pk at *
        clear HC hpk hr
        obtain ⟨q, hq⟩ : ∃ q, max pk 0 = q := ⟨_, rfl⟩
        rw [hq] at e3
        have e6 : (x.kp : Int) + r = (t : Int) := by omega
        clear ht
        go_upto_region 8 with fail
        have QQ := hide HB0.out.drew
        have FIN := hide (fun w' v => HE.out w' v t HT.out htl)
        clear HE HB0
        refine wp_region_noPanic ?_
        refine wp_region_T 28 (fun w' => w'.cell? ⟨b, off + k * 3 + 1, none⟩ = some (.slice s.A x.dt.length s.2) ∧ w'.cell? ⟨b, off + k * 3 + 2, none⟩ = some (.int .i64 x.kp)) (by kernel_rfl) ?_
        generalize World.drew _ = wd at QQ FIN ⊢
        refine anyT_take (i := 0) (v := ?ov0) (by simp only [List.getElem?_toArray, List.getElem?_cons_zero]; exact rfl) (by kernel_rfl) (by kernel_rfl) (fun _ _ _ h => h) (by kernel_rfl) (by kernel_rfl) (Or.inl ⟨by rfl, ?oy0⟩) (by with_reducible exact (QQ.out.pair (Below.refl _ _))) ?or0
        case oy0 => (intro w hSw; (try dsimp only at hSw); go_simp; try with_reducible rfl)
        try simp only [Act.put, List.setIfInBounds_toArray, List.set_cons_zero, List.set_cons_succ]
        refine anyT_take (i := 2) (v := ?ov2) (by simp only [List.getElem?_toArray, List.getElem?_cons_succ, List.getElem?_cons_zero]; exact rfl) (by kernel_rfl) (by kernel_rfl) (fun _ _ _ h => h) (by kernel_rfl) (by kernel_rfl) (Or.inl ⟨by rfl, ?oy2⟩) (by with_reducible exact (QQ.out.pair (Below.refl _ _))) ?or2
        case oy2 => (intro w hSw; (try dsimp only at hSw); go_simp; try with_reducible rfl)
        try simp only [Act.put, List.setIfInBounds_toArray, List.set_cons_zero, List.set_cons_succ]
        refine anyT_take (i := 3) (v := ?ov3) (by simp only [List.getElem?_toArray, List.getElem?_cons_succ, List.getElem?_cons_zero]; exact rfl) (by kernel_rfl) (by kernel_rfl) (fun _ _ _ h => h) (by kernel_rfl) (by kernel_rfl) (Or.inl ⟨by rfl, ?oy3⟩) (by with_reducible exact (QQ.out.pair (Below.refl _ _))) ?or3
        case oy3 => (intro w hSw; (try dsimp only at hSw); go_simp; try with_reducible rfl)
        try simp only [Act.put, List.setIfInBounds_toArray, List.set_cons_zero, List.set_cons_succ]
        refine anyT_take (i := 4) (v := ?ov4) (by simp only [List.getElem?_toArray, List.getElem?_cons_succ, List.getElem?_cons_zero]; exact rfl) (by kernel_rfl) (by kernel_rfl) (fun _ _ _ h => h) (by kernel_rfl) (by kernel_rfl) (Or.inl ⟨by rfl, ?oy4⟩) (by with_reducible exact (QQ.out.pair (Below.refl _ _))) ?or4
        case oy4 => (intro w hSw; (try dsimp only at hSw); go_simp; try with_reducible rfl)
        try simp only [Act.put, List.setIfInBounds_toArray, List.set_cons_zero, List.set_cons_succ]
        refine anyT_take (i := 5) (v := ?ov5) (by simp only [List.getElem?_toArray, List.getElem?_cons_succ, List.getElem?_cons_zero]; exact rfl) (by kernel_rfl) (by kernel_rfl) (fun _ _ _ h => h) (by kernel_rfl) (by kernel_rfl) (Or.inl ⟨by rfl, ?oy5⟩) (by with_reducible exact (QQ.out.pair (Below.refl _ _))) ?or5
        case oy5 => (intro w hSw; (try dsimp only at hSw); go_simp; try with_reducible rfl)
        try simp only [Act.put, List.setIfInBounds_toArray, List.set_cons_zero, List.set_cons_succ]
        refine anyT_take (i := 6) (v := ?ov6) (by simp only [List.getElem?_toArray, List.getElem?_cons_succ, List.getElem?_cons_zero]; exact rfl) (by kernel_rfl) (by kernel_rfl) (fun _ _ _ h => h) (by kernel_rfl) (by kernel_rfl) (Or.inl ⟨by rfl, ?oy6⟩) (by with_reducible exact (QQ.out.pair (Below.refl _ _))) ?or6
        case oy6 => (intro w hSw; (try dsimp only at hSw); go_simp; try with_reducible rfl)
        try simp only [Act.put, List.setIfInBounds_toArray, List.set_cons_zero, List.set_cons_succ]
        refine anyT_take (i := 7) (v := ?ov7) (by simp only [List.getElem?_toArray, List.getElem?_cons_succ, List.getElem?_cons_zero]; exact rfl) (by kernel_rfl) (by kernel_rfl) (fun _ _ _ h => h) (by kernel_rfl) (by kernel_rfl) (Or.inl ⟨by rfl, ?oy7⟩) (by with_reducible exact (QQ.out.pair (Below.refl _ _))) ?or7
        case oy7 => (intro w hSw; (try dsimp only at hSw); go_simp; try with_reducible rfl)
        try simp only [Act.put, List.setIfInBounds_toArray, List.set_cons_zero, List.set_cons_succ]
        refine anyT_take (i := 8) (v := ?ov8) (by simp only [List.getElem?_toArray, List.getElem?_cons_succ, List.getElem?_cons_zero]; exact rfl) (by kernel_rfl) (by kernel_rfl) (fun _ _ _ h => h) (by kernel_rfl) (by kernel_rfl) (Or.inl ⟨by rfl, ?oy8⟩) (by with_reducible exact (QQ.out.pair (Below.refl _ _))) ?or8
        case oy8 => (intro w hSw; (try dsimp only at hSw); go_simp; try with_reducible rfl)
        try simp only [Act.put, List.setIfInBounds_toArray, List.set_cons_zero, List.set_cons_succ]
        refine anyT_take (i := 9) (v := ?ov9) (by simp only [List.getElem?_toArray, List.getElem?_cons_succ, List.getElem?_cons_zero]; exact rfl) (by kernel_rfl) (by kernel_rfl) (fun _ _ _ h => h) (by kernel_rfl) (by kernel_rfl) (Or.inl ⟨by rfl, ?oy9⟩) (by with_reducible exact (QQ.out.pair (Below.refl _ _))) ?or9
        case oy9 => (intro w hSw; (try dsimp only at hSw); go_simp; try with_reducible rfl)
        try simp only [Act.put, List.setIfInBounds_toArray, List.set_cons_zero, List.set_cons_succ]
        refine anyT_take (i := 10) (v := ?ov10) (by simp only [List.getElem?_toArray, List.getElem?_cons_succ, List.getElem?_cons_zero]; exact rfl) (by kernel_rfl) (by kernel_rfl) (fun _ _ _ h => h) (by kernel_rfl) (by kernel_rfl) (Or.inl ⟨by rfl, ?oy10⟩) (by with_reducible exact (QQ.out.pair (Below.refl _ _))) ?or10
        case oy10 => (intro w hSw; (try dsimp only at hSw); go_simp; try with_reducible rfl)
        try simp only [Act.put, List.setIfInBounds_toArray, List.set_cons_zero, List.set_cons_succ]
        refine anyT_take (i := 11) (v := ?ov11) (by simp only [List.getElem?_toArray, List.getElem?_cons_succ, List.getElem?_cons_zero]; exact rfl) (by kernel_rfl) (by kernel_rfl) (fun _ _ _ h => h) (by kernel_rfl) (by kernel_rfl) (Or.inl ⟨by rfl, ?oy11⟩) (by with_reducible exact (QQ.out.pair (Below.refl _ _))) ?or11
        case oy11 => (intro w hSw; (try dsimp only at hSw); go_simp; try with_reducible rfl)
        try simp only [Act.put, List.setIfInBounds_toArray, List.set_cons_zero, List.set_cons_succ]
        refine anyT_take (i := 12) (v := ?ov12) (by simp only [List.getElem?_toArray, List.getElem?_cons_succ, List.getElem?_cons_zero]; exact rfl) (by kernel_rfl) (by kernel_rfl) (fun _ _ _ h => h) (by kernel_rfl) (by kernel_rfl) (Or.inl ⟨by rfl, ?oy12⟩) (by with_reducible exact (QQ.out.pair (Below.refl _ _))) ?or12
        case oy12 => (intro w hSw; (try dsimp only at hSw); go_simp; try with_reducible rfl)
        try simp only [Act.put, List.setIfInBounds_toArray, List.set_cons_zero, List.set_cons_succ]
        refine anyT_take (i := 13) (v := ?ov13) (by simp only [List.getElem?_toArray, List.getElem?_cons_succ, List.getElem?_cons_zero]; exact rfl) (by kernel_rfl) (by kernel_rfl) (fun _ _ _ h => h) (by kernel_rfl) (by kernel_rfl) (Or.inl ⟨by rfl, ?oy13⟩) (by with_reducible exact (QQ.out.pair (Below.refl _ _))) ?or13
        case oy13 => (intro w hSw; (try dsimp only at hSw); go_simp; try with_reducible rfl)
        try simp only [Act.put, List.setIfInBounds_toArray, List.set_cons_zero, List.set_cons_succ]
        refine anyT_take (i := 14) (v := ?ov14) (by simp only [List.getElem?_toArray, List.getElem?_cons_succ, List.getElem?_cons_zero]; exact rfl) (by kernel_rfl) (by kernel_rfl) (fun _ _ _ h => h) (by kernel_rfl) (by kernel_rfl) (Or.inl ⟨by rfl, ?oy14⟩) (by with_reducible exact (QQ.out.pair (Below.refl _ _))) ?or14
        case oy14 => (intro w hSw; (try dsimp only at hSw); go_simp; try with_reducible rfl)
        try simp only [Act.put, List.setIfInBounds_toArray, List.set_cons_zero, List.set_cons_succ]
        refine anyT_take (i := 15) (v := ?ov15) (by simp only [List.getElem?_toArray, List.getElem?_cons_succ, List.getElem?_cons_zero]; exact rfl) (by kernel_rfl) (by kernel_rfl) (fun _ _ _ h => h) (by kernel_rfl) (by kernel_rfl) (Or.inl ⟨by rfl, ?oy15⟩) (by with_reducible exact (QQ.out.pair (Below.refl _ _))) ?or15
        case oy15 => (intro w hSw; (try dsimp only at hSw); go_simp; try with_reducible rfl)
        try simp only [Act.put, List.setIfInBounds_toArray, List.set_cons_zero, List.set_cons_succ]
        refine anyT_take (i := 16) (v := ?ov16) (by simp only [List.getElem?_toArray, List.getElem?_cons_succ, List.getElem?_cons_zero]; exact rfl) (by kernel_rfl) (by kernel_rfl) (fun _ _ _ h => h) (by kernel_rfl) (by kernel_rfl) (Or.inl ⟨by rfl, ?oy16⟩) (by with_reducible exact (QQ.out.pair (Below.refl _ _))) ?or16
        case oy16 => (intro w hSw; (try dsimp only at hSw); go_simp; try with_reducible rfl)
        try simp only [Act.put, List.setIfInBounds_toArray, List.set_cons_zero, List.set_cons_succ]
        refine anyT_take (i := 17) (v := ?ov17) (by simp only [List.getElem?_toArray, List.getElem?_cons_succ, List.getElem?_cons_zero]; exact rfl) (by kernel_rfl) (by kernel_rfl) (fun _ _ _ h => h) (by kernel_rfl) (by kernel_rfl) (Or.inl ⟨by rfl, ?oy17⟩) (by with_reducible exact (QQ.out.pair (Below.refl _ _))) ?or17
        case oy17 => (intro w hSw; (try dsimp only at hSw); go_simp; try with_reducible rfl)
        try simp only [Act.put, List.setIfInBounds_toArray, List.set_cons_zero, List.set_cons_succ]
        refine anyT_take (i := 18) (v := ?ov18) (by simp only [List.getElem?_toArray, List.getElem?_cons_succ, List.getElem?_cons_zero]; exact rfl) (by kernel_rfl) (by kernel_rfl) (fun _ _ _ h => h) (by kernel_rfl) (by kernel_rfl) (Or.inl ⟨by rfl, ?oy18⟩) (by with_reducible exact (QQ.out.pair (Below.refl _ _))) ?or18
        case oy18 => (intro w hSw; (try dsimp only at hSw); go_simp; try with_reducible rfl)
        try simp only [Act.put, List.setIfInBounds_toArray, List.set_cons_zero, List.set_cons_succ]
        refine anyT_take (i := 19) (v := ?ov19) (by simp only [List.getElem?_toArray, List.getElem?_cons_succ, List.getElem?_cons_zero]; exact rfl) (by kernel_rfl) (by kernel_rfl) (fun _ _ _ h => h) (by kernel_rfl) (by kernel_rfl) (Or.inl ⟨by rfl, ?oy19⟩) (by with_reducible exact (QQ.out.pair (Below.refl _ _))) ?or19
        case oy19 => (intro w hSw; (try dsimp only at hSw); go_simp; try with_reducible rfl)
        try simp only [Act.put, List.setIfInBounds_toArray, List.set_cons_zero, List.set_cons_succ]
        refine anyT_take (i := 20) (v := ?ov20) (by simp only [List.getElem?_toArray, List.getElem?_cons_succ, List.getElem?_cons_zero]; exact rfl) (by kernel_rfl) (by kernel_rfl) (fun _ _ _ h => h) (by kernel_rfl) (by kernel_rfl) (Or.inl ⟨by rfl, ?oy20⟩) (by with_reducible exact (QQ.out.pair (Below.refl _ _))) ?or20
        case oy20 => (intro w hSw; (try dsimp only at hSw); go_simp; try with_reducible rfl)
        try simp only [Act.put, List.setIfInBounds_toArray, List.set_cons_zero, List.set_cons_succ]
        refine anyT_take (i := 21) (v := ?ov21) (by simp only [List.getElem?_toArray, List.getElem?_cons_succ, List.getElem?_cons_zero]; exact rfl) (by kernel_rfl) (by kernel_rfl) (fun _ _ _ h => h) (by kernel_rfl) (by kernel_rfl) (Or.inl ⟨by rfl, ?oy21⟩) (by with_reducible exact (QQ.out.pair (Below.refl _ _))) ?or21
        case oy21 => (intro w hSw; (try dsimp only at hSw); go_simp; try with_reducible rfl)
        try simp only [Act.put, List.setIfInBounds_toArray, List.set_cons_zero, List.set_cons_succ]
        refine anyT_take (i := 22) (v := ?ov22) (by simp only [List.getElem?_toArray, List.getElem?_cons_succ, List.getElem?_cons_zero]; exact rfl) (by kernel_rfl) (by kernel_rfl) (fun _ _ _ h => h) (by kernel_rfl) (by kernel_rfl) (Or.inl ⟨by rfl, ?oy22⟩) (by with_reducible exact (QQ.out.pair (Below.refl _ _))) ?or22
        case oy22 => (intro w hSw; (try dsimp only at hSw); go_simp; try with_reducible rfl)
        try simp only [Act.put, List.setIfInBounds_toArray, List.set_cons_zero, List.set_cons_succ]
        refine anyT_take (i := 23) (v := ?ov23) (by simp only [List.getElem?_toArray, List.getElem?_cons_succ, List.getElem?_cons_zero]; exact rfl) (by kernel_rfl) (by kernel_rfl) (fun _ _ _ h => h) (by kernel_rfl) (by kernel_rfl) (Or.inl ⟨by rfl, ?oy23⟩) (by with_reducible exact (QQ.out.pair (Below.refl _ _))) ?or23
        case oy23 => (intro w hSw; (try dsimp only at hSw); go_simp; try with_reducible rfl)
        try simp only [Act.put, List.setIfInBounds_toArray, List.set_cons_zero, List.set_cons_succ]
        refine anyT_take (i := 24) (v := ?ov24) (by simp only [List.getElem?_toArray, List.getElem?_cons_succ, List.getElem?_cons_zero]; exact rfl) (by kernel_rfl) (by kernel_rfl) (fun _ _ _ h => h) (by kernel_rfl) (by kernel_rfl) (Or.inl ⟨by rfl, ?oy24⟩) (by with_reducible exact (QQ.out.pair (Below.refl _ _))) ?or24
        case oy24 => (intro w hSw; (try dsimp only at hSw); go_simp; try with_reducible rfl)
        try simp only [Act.put, List.setIfInBounds_toArray, List.set_cons_zero, List.set_cons_succ]
        have HB := hide (Below.refl wd.heap.size wd)
        refine anyT_one (i := 1) (by kernel_rfl) (by simp only [List.getElem?_toArray, List.getElem?_cons_succ, List.getElem?_cons_zero]; exact rfl) (fun K hK => ?_)
        go_simp
        have HBN := hide (HB.out.alloc HB.out.size (.cells #[] 5))
        have HG := hide (show (wd.alloc (.cells #[] 5)).ownsRow wd.heap.size 5 1 (.slice (some ⟨wd.heap.size, 0, none⟩) 0 0) 0 (cellsOf []) from wd.ownsRow_made #[] 0 (Nat.le_refl _) (by unfold maxLen; omega) rfl)
        refine hK.out _ _ (fun _ => QQ.out.pair HBN.out) ?_
        clear hK K HB
        try simp only [Act.put, List.setIfInBounds_toArray, List.set_cons_zero, List.set_cons_succ]
        generalize World.alloc wd _ = wa at HBN HG ⊢
        have HB := HBN
        clear HBN
        refine anyT_one (i := 25) (by kernel_rfl) (by simp only [List.getElem?_toArray, List.getElem?_cons_succ, List.getElem?_cons_zero]; exact rfl) (fun K hK => ?_)
        refine step_append_bytes (by rfl) (.tmp 38) (.tmp 61) 31 (by rfl) wd.heap.size 5 i0 _ Tryz.underlying31 HI.out.1 HI.out.2.1 HI.out.2.2.1 HI.out.2.2.2 rfl _ 0 [] (by rfl) HG.out s.A t s.2 (x.dt.take t) (by rfl) HL.out QQ.out.nil ((QQ.out.old.below HB.out).take t) (by omega) HB.out.size (fun v1 w14 hO hb2 => ?_)
        have HBN := hide (HB.out.trans hb2)
        rw [Nat.zero_add, List.nil_append] at hO
        obtain ⟨s', rfl, ⟨n0, hB2⟩, hC2⟩ := FIN.out _ _ HBN.out hO
        have HF2 := hide (And.intro hB2 hC2)
        clear hB2 hC2 FIN
        refine hK.out _ _ (fun _ => QQ.out.pair HBN.out) ?_
        clear hK K HB HG hO hb2
        try simp only [Act.put, List.setIfInBounds_toArray, List.set_cons_zero, List.set_cons_succ]
        have HB := HBN
        clear HBN
        refine anyT_one (i := 26) (by kernel_rfl) (by simp only [List.getElem?_toArray, List.getElem?_cons_succ, List.getElem?_cons_zero]; exact rfl) (fun K hK => ?_)
        go_simp
        refine hK.out _ _ (fun _ => QQ.out.pair HB.out) ?_
        clear hK K
        try simp only [Act.put, List.setIfInBounds_toArray, List.set_cons_zero, List.set_cons_succ]
        refine anyT_one (i := 27) (by kernel_rfl) (by simp only [List.getElem?_toArray, List.getElem?_cons_succ, List.getElem?_cons_zero]; exact rfl) (fun K hK => ?_)
        go_simp
        refine hK.out _ _ (fun _ => QQ.out.pair HB.out) ?_
        clear hK K
        try simp only [Act.put, List.setIfInBounds_toArray, List.set_cons_zero, List.set_cons_succ]
        refine anyT_one (i := 28) (by kernel_rfl) (by simp only [List.getElem?_toArray, List.getElem?_cons_succ, List.getElem?_cons_zero]; exact rfl) (fun K hK => ?_)
        have f0 : World.frozen? _ ⟨b, off + k * 3 + 1, none⟩ = false := frozen_below QQ.out.f1 HB.out QQ.out.hb
        have f1 := (QQ.out.pair HB.out).1
        go_simp
        refine hK.out _ _ (fun e => absurd rfl e) ?_
        clear hK K f0 f1
        refine anyT_done (by kernel_rfl) ?_
        refine NoPanic.normal ?_
        clear QQ HB e1 e2 e3 e4 z0
        generalize World.setCell _ _ _ = w2 at HF2 ⊢
        have q1 := HF2.out.1.c1
        simp only [HL.out] at q1
        have q2 := HF2.out.1.c2
        have z2 := HF2.out.1.f2
        have HN := hide HF2.out.2
        clear HF2
        go_wp2
        go_roundw
        case rel => exact ⟨k + 1, by omega, by go_num, HN⟩
        case measure => simp [intOf]; omega
      · rw [pick_out ps (k := k) (by omega)] at e3 hr
        have hr0 : r = 0 := by
          rw [Int.zero_emod] at hr; omega
        subst hr0
        obtain rfl : t = x.kp := by omega
        clear HC hpk hr ht
        go_upto_region 8 with fail
        have QQ := hide HB0.out.drew
        have FIN := hide (fun w' v => HE.out w' v x.kp HT.out htl)
        clear HE HB0
        refine wp_region_noPanic ?_
        refine wp_region_T 28 (fun w' => w'.cell? ⟨b, off + k * 3 + 1, none⟩ = some (.slice s.A x.dt.length s.2) ∧ w'.cell? ⟨b, off + k * 3 + 2, none⟩ = some (.int .i64 x.kp)) (by kernel_rfl) ?_
        generalize World.drew _ = wd at QQ FIN ⊢
        refine anyT_take (i := 0) (v := ?ov0b) (by simp only [List.getElem?_toArray, List.getElem?_cons_zero]; exact rfl) (by kernel_rfl) (by kernel_rfl) (fun _ _ _ h => h) (by kernel_rfl) (by kernel_rfl) (Or.inl ⟨by rfl, ?oy0b⟩) (by with_reducible exact (QQ.out.pair (Below.refl _ _))) ?or0b
        case oy0b => (intro w hSw; (try dsimp only at hSw); go_simp; try with_reducible rfl)
        try simp only [Act.put, List.setIfInBounds_toArray, List.set_cons_zero, List.set_cons_succ]
        refine anyT_take (i := 2) (v := ?ov2b) (by simp only [List.getElem?_toArray, List.getElem?_cons_succ, List.getElem?_cons_zero]; exact rfl) (by kernel_rfl) (by kernel_rfl) (fun _ _ _ h => h) (by kernel_rfl) (by kernel_rfl) (Or.inl ⟨by rfl, ?oy2b⟩) (by with_reducible exact (QQ.out.pair (Below.refl _ _))) ?or2b
        case oy2b => (intro w hSw; (try dsimp only at hSw); go_simp; try with_reducible rfl)
        try simp only [Act.put, List.setIfInBounds_toArray, List.set_cons_zero, List.set_cons_succ]
        refine anyT_take (i := 3) (v := ?ov3b) (by simp only [List.getElem?_toArray, List.getElem?_cons_succ, List.getElem?_cons_zero]; exact rfl) (by kernel_rfl) (by kernel_rfl) (fun _ _ _ h => h) (by kernel_rfl) (by kernel_rfl) (Or.inl ⟨by rfl, ?oy3b⟩) (by with_reducible exact (QQ.out.pair (Below.refl _ _))) ?or3b
        case oy3b => (intro w hSw; (try dsimp only at hSw); go_simp; try with_reducible rfl)
        try simp only [Act.put, List.setIfInBounds_toArray, List.set_cons_zero, List.set_cons_succ]
        refine anyT_take (i := 4) (v := ?ov4b) (by simp only [List.getElem?_toArray, List.getElem?_cons_succ, List.getElem?_cons_zero]; exact rfl) (by kernel_rfl) (by kernel_rfl) (fun _ _ _ h => h) (by kernel_rfl) (by kernel_rfl) (Or.inl ⟨by rfl, ?oy4b⟩) (by with_reducible exact (QQ.out.pair (Below.refl _ _))) ?or4b
        case oy4b => (intro w hSw; (try dsimp only at hSw); go_simp; try with_reducible rfl)
        try simp only [Act.put, List.setIfInBounds_toArray, List.set_cons_zero, List.set_cons_succ]
        refine anyT_take (i := 5) (v := ?ov5b) (by simp only [List.getElem?_toArray, List.getElem?_cons_succ, List.getElem?_cons_zero]; exact rfl) (by kernel_rfl) (by kernel_rfl) (fun _ _ _ h => h) (by kernel_rfl) (by kernel_rfl) (Or.inl ⟨by rfl, ?oy5b⟩) (by with_reducible exact (QQ.out.pair (Below.refl _ _))) ?or5b
        case oy5b => (intro w hSw; (try dsimp only at hSw); go_simp; try with_reducible rfl)
        try simp only [Act.put, List.setIfInBounds_toArray, List.set_cons_zero, List.set_cons_succ]
        refine anyT_take (i := 6) (v := ?ov6b) (by simp only [List.getElem?_toArray, List.getElem?_cons_succ, List.getElem?_cons_zero]; exact rfl) (by kernel_rfl) (by kernel_rfl) (fun _ _ _ h => h) (by kernel_rfl) (by kernel_rfl) (Or.inl ⟨by rfl, ?oy6b⟩) (by with_reducible exact (QQ.out.pair (Below.refl _ _))) ?or6b
        case oy6b => (intro w hSw; (try dsimp only at hSw); go_simp; try with_reducible rfl)
        try simp only [Act.put, List.setIfInBounds_toArray, List.set_cons_zero, List.set_cons_succ]
        refine anyT_take (i := 7) (v := ?ov7b) (by simp only [List.getElem?_toArray, List.getElem?_cons_succ, List.getElem?_cons_zero]; exact rfl) (by kernel_rfl) (by kernel_rfl) (fun _ _ _ h => h) (by kernel_rfl) (by kernel_rfl) (Or.inl ⟨by rfl, ?oy7b⟩) (by with_reducible exact (QQ.out.pair (Below.refl _ _))) ?or7b
        case oy7b => (intro w hSw; (try dsimp only at hSw); go_simp; try with_reducible rfl)
        try simp only [Act.put, List.setIfInBounds_toArray, List.set_cons_zero, List.set_cons_succ]
        refine anyT_take (i := 8) (v := ?ov8b) (by simp only [List.getElem?_toArray, List.getElem?_cons_succ, List.getElem?_cons_zero]; exact rfl) (by kernel_rfl) (by kernel_rfl) (fun _ _ _ h => h) (by kernel_rfl) (by kernel_rfl) (Or.inl ⟨by rfl, ?oy8b⟩) (by with_reducible exact (QQ.out.pair (Below.refl _ _))) ?or8b
        case oy8b => (intro w hSw; (try dsimp only at hSw); go_simp; try with_reducible rfl)
        try simp only [Act.put, List.setIfInBounds_toArray, List.set_cons_zero, List.set_cons_succ]
        refine anyT_take (i := 9) (v := ?ov9b) (by simp only [List.getElem?_toArray, List.getElem?_cons_succ, List.getElem?_cons_zero]; exact rfl) (by kernel_rfl) (by kernel_rfl) (fun _ _ _ h => h) (by kernel_rfl) (by kernel_rfl) (Or.inl ⟨by rfl, ?oy9b⟩) (by with_reducible exact (QQ.out.pair (Below.refl _ _))) ?or9b
        case oy9b => (intro w hSw; (try dsimp only at hSw); go_simp; try with_reducible rfl)
        try simp only [Act.put, List.setIfInBounds_toArray, List.set_cons_zero, List.set_cons_succ]
        refine anyT_take (i := 10) (v := ?ov10b) (by simp only [List.getElem?_toArray, List.getElem?_cons_succ, List.getElem?_cons_zero]; exact rfl) (by kernel_rfl) (by kernel_rfl) (fun _ _ _ h => h) (by kernel_rfl) (by kernel_rfl) (Or.inl ⟨by rfl, ?oy10b⟩) (by with_reducible exact (QQ.out.pair (Below.refl _ _))) ?or10b
        case oy10b => (intro w hSw; (try dsimp only at hSw); go_simp; try with_reducible rfl)
        try simp only [Act.put, List.setIfInBounds_toArray, List.set_cons_zero, List.set_cons_succ]
        refine anyT_take (i := 11) (v := ?ov11b) (by simp only [List.getElem?_toArray, List.getElem?_cons_succ, List.getElem?_cons_zero]; exact rfl) (by kernel_rfl) (by kernel_rfl) (fun _ _ _ h => h) (by kernel_rfl) (by kernel_rfl) (Or.inl ⟨by rfl, ?oy11b⟩) (by with_reducible exact (QQ.out.pair (Below.refl _ _))) ?or11b
        case oy11b => (intro w hSw; (try dsimp only at hSw); go_simp; try with_reducible rfl)
        try simp only [Act.put, List.setIfInBounds_toArray, List.set_cons_zero, List.set_cons_succ]
        refine anyT_take (i := 12) (v := ?ov12b) (by simp only [List.getElem?_toArray, List.getElem?_cons_succ, List.getElem?_cons_zero]; exact rfl) (by kernel_rfl) (by kernel_rfl) (fun _ _ _ h => h) (by kernel_rfl) (by kernel_rfl) (Or.inl ⟨by rfl, ?oy12b⟩) (by with_reducible exact (QQ.out.pair (Below.refl _ _))) ?or12b
        case oy12b => (intro w hSw; (try dsimp only at hSw); go_simp; try with_reducible rfl)
        try simp only [Act.put, List.setIfInBounds_toArray, List.set_cons_zero, List.set_cons_succ]
        refine anyT_take (i := 13) (v := ?ov13b) (by simp only [List.getElem?_toArray, List.getElem?_cons_succ, List.getElem?_cons_zero]; exact rfl) (by kernel_rfl) (by kernel_rfl) (fun _ _ _ h => h) (by kernel_rfl) (by kernel_rfl) (Or.inl ⟨by rfl, ?oy13b⟩) (by with_reducible exact (QQ.out.pair (Below.refl _ _))) ?or13b
        case oy13b => (intro w hSw; (try dsimp only at hSw); go_simp; try with_reducible rfl)
        try simp only [Act.put, List.setIfInBounds_toArray, List.set_cons_zero, List.set_cons_succ]
        refine anyT_take (i := 14) (v := ?ov14b) (by simp only [List.getElem?_toArray, List.getElem?_cons_succ, List.getElem?_cons_zero]; exact rfl) (by kernel_rfl) (by kernel_rfl) (fun _ _ _ h => h) (by kernel_rfl) (by kernel_rfl) (Or.inl ⟨by rfl, ?oy14b⟩) (by with_reducible exact (QQ.out.pair (Below.refl _ _))) ?or14b
        case oy14b => (intro w hSw; (try dsimp only at hSw); go_simp; try with_reducible rfl)
        try simp only [Act.put, List.setIfInBounds_toArray, List.set_cons_zero, List.set_cons_succ]
        refine anyT_take (i := 15) (v := ?ov15b) (by simp only [List.getElem?_toArray, List.getElem?_cons_succ, List.getElem?_cons_zero]; exact rfl) (by kernel_rfl) (by kernel_rfl) (fun _ _ _ h => h) (by kernel_rfl) (by kernel_rfl) (Or.inl ⟨by rfl, ?oy15b⟩) (by with_reducible exact (QQ.out.pair (Below.refl _ _))) ?or15b
        case oy15b => (intro w hSw; (try dsimp only at hSw); go_simp; try with_reducible rfl)
        try simp only [Act.put, List.setIfInBounds_toArray, List.set_cons_zero, List.set_cons_succ]
        refine anyT_take (i := 16) (v := ?ov16b) (by simp only [List.getElem?_toArray, List.getElem?_cons_succ, List.getElem?_cons_zero]; exact rfl) (by kernel_rfl) (by kernel_rfl) (fun _ _ _ h => h) (by kernel_rfl) (by kernel_rfl) (Or.inl ⟨by rfl, ?oy16b⟩) (by with_reducible exact (QQ.out.pair (Below.refl _ _))) ?or16b
        case oy16b => (intro w hSw; (try dsimp only at hSw); go_simp; try with_reducible rfl)
        try simp only [Act.put, List.setIfInBounds_toArray, List.set_cons_zero, List.set_cons_succ]
        refine anyT_take (i := 17) (v := ?ov17b) (by simp only [List.getElem?_toArray, List.getElem?_cons_succ, List.getElem?_cons_zero]; exact rfl) (by kernel_rfl) (by kernel_rfl) (fun _ _ _ h => h) (by kernel_rfl) (by kernel_rfl) (Or.inl ⟨by rfl, ?oy17b⟩) (by with_reducible exact (QQ.out.pair (Below.refl _ _))) ?or17b
        case oy17b => (intro w hSw; (try dsimp only at hSw); go_simp; try with_reducible rfl)
        try simp only [Act.put, List.setIfInBounds_toArray, List.set_cons_zero, List.set_cons_succ]
        refine anyT_take (i := 18) (v := ?ov18b) (by simp only [List.getElem?_toArray, List.getElem?_cons_succ, List.getElem?_cons_zero]; exact rfl) (by kernel_rfl) (by kernel_rfl) (fun _ _ _ h => h) (by kernel_rfl) (by kernel_rfl) (Or.inl ⟨by rfl, ?oy18b⟩) (by with_reducible exact (QQ.out.pair (Below.refl _ _))) ?or18b
        case oy18b => (intro w hSw; (try dsimp only at hSw); go_simp; try with_reducible rfl)
        try simp only [Act.put, List.setIfInBounds_toArray, List.set_cons_zero, List.set_cons_succ]
        refine anyT_take (i := 19) (v := ?ov19b) (by simp only [List.getElem?_toArray, List.getElem?_cons_succ, List.getElem?_cons_zero]; exact rfl) (by kernel_rfl) (by kernel_rfl) (fun _ _ _ h => h) (by kernel_rfl) (by kernel_rfl) (Or.inl ⟨by rfl, ?oy19b⟩) (by with_reducible exact (QQ.out.pair (Below.refl _ _))) ?or19b
        case oy19b => (intro w hSw; (try dsimp only at hSw); go_simp; try with_reducible rfl)
        try simp only [Act.put, List.setIfInBounds_toArray, List.set_cons_zero, List.set_cons_succ]
        refine anyT_take (i := 20) (v := ?ov20b) (by simp only [List.getElem?_toArray, List.getElem?_cons_succ, List.getElem?_cons_zero]; exact rfl) (by kernel_rfl) (by kernel_rfl) (fun _ _ _ h => h) (by kernel_rfl) (by kernel_rfl) (Or.inl ⟨by rfl, ?oy20b⟩) (by with_reducible exact (QQ.out.pair (Below.refl _ _))) ?or20b
        case oy20b => (intro w hSw; (try dsimp only at hSw); go_simp; try with_reducible rfl)
        try simp only [Act.put, List.setIfInBounds_toArray, List.set_cons_zero, List.set_cons_succ]
        refine anyT_take (i := 21) (v := ?ov21b) (by simp only [List.getElem?_toArray, List.getElem?_cons_succ, List.getElem?_cons_zero]; exact rfl) (by kernel_rfl) (by kernel_rfl) (fun _ _ _ h => h) (by kernel_rfl) (by kernel_rfl) (Or.inl ⟨by rfl, ?oy21b⟩) (by with_reducible exact (QQ.out.pair (Below.refl _ _))) ?or21b
        case oy21b => (intro w hSw; (try dsimp only at hSw); go_simp; try with_reducible rfl)
        try simp only [Act.put, List.setIfInBounds_toArray, List.set_cons_zero, List.set_cons_succ]
        refine anyT_take (i := 22) (v := ?ov22b) (by simp only [List.getElem?_toArray, List.getElem?_cons_succ, List.getElem?_cons_zero]; exact rfl) (by kernel_rfl) (by kernel_rfl) (fun _ _ _ h => h) (by kernel_rfl) (by kernel_rfl) (Or.inl ⟨by rfl, ?oy22b⟩) (by with_reducible exact (QQ.out.pair (Below.refl _ _))) ?or22b
        case oy22b => (intro w hSw; (try dsimp only at hSw); go_simp; try with_reducible rfl)
        try simp only [Act.put, List.setIfInBounds_toArray, List.set_cons_zero, List.set_cons_succ]
        refine anyT_take (i := 23) (v := ?ov23b) (by simp only [List.getElem?_toArray, List.getElem?_cons_succ, List.getElem?_cons_zero]; exact rfl) (by kernel_rfl) (by kernel_rfl) (fun _ _ _ h => h) (by kernel_rfl) (by kernel_rfl) (Or.inl ⟨by rfl, ?oy23b⟩) (by with_reducible exact (QQ.out.pair (Below.refl _ _))) ?or23b
        case oy23b => (intro w hSw; (try dsimp only at hSw); go_simp; try with_reducible rfl)
        try simp only [Act.put, List.setIfInBounds_toArray, List.set_cons_zero, List.set_cons_succ]
        refine anyT_take (i := 24) (v := ?ov24b) (by simp only [List.getElem?_toArray, List.getElem?_cons_succ, List.getElem?_cons_zero]; exact rfl) (by kernel_rfl) (by kernel_rfl) (fun _ _ _ h => h) (by kernel_rfl) (by kernel_rfl) (Or.inl ⟨by rfl, ?oy24b⟩) (by with_reducible exact (QQ.out.pair (Below.refl _ _))) ?or24b
        case oy24b => (intro w hSw; (try dsimp only at hSw); go_simp; try with_reducible rfl)
        try simp only [Act.put, List.setIfInBounds_toArray, List.set_cons_zero, List.set_cons_succ]
        have HB := hide (Below.refl wd.heap.size wd)
        refine anyT_one (i := 1) (by kernel_rfl) (by simp only [List.getElem?_toArray, List.getElem?_cons_succ, List.getElem?_cons_zero]; exact rfl) (fun K hK => ?_)
        go_simp
        have HBN := hide (HB.out.alloc HB.out.size (.cells #[] 5))
        have HG := hide (show (wd.alloc (.cells #[] 5)).ownsRow wd.heap.size 5 1 (.slice (some ⟨wd.heap.size, 0, none⟩) 0 0) 0 (cellsOf []) from wd.ownsRow_made #[] 0 (Nat.le_refl _) (by unfold maxLen; omega) rfl)
        refine hK.out _ _ (fun _ => QQ.out.pair HBN.out) ?_
        clear hK K HB
        try simp only [Act.put, List.setIfInBounds_toArray, List.set_cons_zero, List.set_cons_succ]
        generalize World.alloc wd _ = wa at HBN HG ⊢
        have HB := HBN
        clear HBN
        refine anyT_one (i := 25) (by kernel_rfl) (by simp only [List.getElem?_toArray, List.getElem?_cons_succ, List.getElem?_cons_zero]; exact rfl) (fun K hK => ?_)
        refine step_append_bytes (by rfl) (.tmp 38) (.tmp 61) 31 (by rfl) wd.heap.size 5 i0 _ Tryz.underlying31 HI.out.1 HI.out.2.1 HI.out.2.2.1 HI.out.2.2.2 rfl _ 0 [] (by rfl) HG.out s.A x.kp s.2 (x.dt.take x.kp) (by rfl) HL.out QQ.out.nil ((QQ.out.old.below HB.out).take x.kp) (by omega) HB.out.size (fun v1 w14 hO hb2 => ?_)
        have HBN := hide (HB.out.trans hb2)
        rw [Nat.zero_add, List.nil_append] at hO
        obtain ⟨s', rfl, ⟨n0, hB2⟩, hC2⟩ := FIN.out _ _ HBN.out hO
        have HF2 := hide (And.intro hB2 hC2)
        clear hB2 hC2 FIN
        refine hK.out _ _ (fun _ => QQ.out.pair HBN.out) ?_
        clear hK K HB HG hO hb2
        try simp only [Act.put, List.setIfInBounds_toArray, List.set_cons_zero, List.set_cons_succ]
        have HB := HBN
        clear HBN
        refine anyT_one (i := 26) (by kernel_rfl) (by simp only [List.getElem?_toArray, List.getElem?_cons_succ, List.getElem?_cons_zero]; exact rfl) (fun K hK => ?_)
        go_simp
        refine hK.out _ _ (fun _ => QQ.out.pair HB.out) ?_
        clear hK K
        try simp only [Act.put, List.setIfInBounds_toArray, List.set_cons_zero, List.set_cons_succ]
        refine anyT_one (i := 27) (by kernel_rfl) (by simp only [List.getElem?_toArray, List.getElem?_cons_succ, List.getElem?_cons_zero]; exact rfl) (fun K hK => ?_)
        go_simp
        refine hK.out _ _ (fun _ => QQ.out.pair HB.out) ?_
        clear hK K
        try simp only [Act.put, List.setIfInBounds_toArray, List.set_cons_zero, List.set_cons_succ]
        refine anyT_one (i := 28) (by kernel_rfl) (by simp only [List.getElem?_toArray, List.getElem?_cons_succ, List.getElem?_cons_zero]; exact rfl) (fun K hK => ?_)
        have f0 : World.frozen? _ ⟨b, off + k * 3 + 1, none⟩ = false := frozen_below QQ.out.f1 HB.out QQ.out.hb
        have f1 := (QQ.out.pair HB.out).1
        go_simp
        refine hK.out _ _ (fun e => absurd rfl e) ?_
        clear hK K f0 f1
        refine anyT_done (by kernel_rfl) ?_
        refine NoPanic.normal ?_
        clear QQ HB e1 e2 e3 e4 z0
        generalize World.setCell _ _ _ = w2 at HF2 ⊢
        have q1 := HF2.out.1.c1
        simp only [HL.out] at q1
        have q2 := HF2.out.1.c2
        have z2 := HF2.out.1.f2
        have HN := hide HF2.out.2
        clear HF2
        go_wp2
        go_roundw
        case rel => exact ⟨k + 1, by omega, by go_num, HN⟩
        case measure => simp [intOf]; omega
    · obtain rfl : k = d.l.length := by omega
      have HD := hide hC.out.done
      clear hC HPK hb
      go_wp2
      go_end0
      exact ⟨rfl, HD.out⟩
end
end Go.Proofs.YtkmcnhjfnjikaaaGreatDoor
