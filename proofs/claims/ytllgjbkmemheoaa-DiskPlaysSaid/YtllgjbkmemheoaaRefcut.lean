/- Cut of the document's disk. Conditions: the slice has room. -/
import Derived.Test.YtllgjbkmemheoaaRefXY
namespace Go.Proofs.Ytllgjbkmemheoaa
open Go.RowKit Go.Maps
section
variable {S : Nat → Prop} {w : World} {g : Nat} {R : List (Fl × Ps)} {A : Option Addr} {c : Nat} {d : DS} {nm : ByteArray} {m : Int}
set_option maxRecDepth 100000 in
set_option maxHeartbeats 1000000 in
theorem rcut_off (h : Rp S w g R A c d) (hok : DOk d) (hln : d.l.length ≤ 1000000) (ho : d.off = true) :
    Calls Try.prog 36 #[.pointer (some ⟨g, 0, none⟩), .string nm, .int .i64 m] w (Chr S w g 10 d) := by
  have c3 : w.cell? ⟨g, 3, none⟩ = some (.bool true) := by rw [← ho]; exact h.row.cell 3
  have HA := hide (at_any h nm hln)
  have H := hide (Chr.same (h.rk hok) 10)
  clear h hok ho
  go_enter Try.func36, Try.ntmps36
  go_wp2_with (go_at_call 49; (with_reducible refine HA.out.mono ?_); rintro e w' ⟨⟨v, rfl, hv⟩, rfl⟩)
  go_ret
  exact H.out
set_option maxRecDepth 100000 in
set_option maxHeartbeats 1000000 in
theorem rcut_none (h : Rp S w g R A c d) (hok : DOk d) (hln : d.l.length ≤ 1000000) (ho : d.off = false) (hf : find nm d.l = none) :
    Calls Try.prog 36 #[.pointer (some ⟨g, 0, none⟩), .string nm, .int .i64 m] w (Chr S w g 8 d) := by
  have c3 : w.cell? ⟨g, 3, none⟩ = some (.bool false) := by rw [← ho]; exact h.row.cell 3
  have HA := hide (at_no h hln hf)
  have H := hide (Chr.same (h.rk hok) 8)
  clear h hok ho hf
  go_enter Try.func36, Try.ntmps36
  go_wp2_with (go_at_call 49; (with_reducible refine HA.out.mono ?_); rintro e w' ⟨rfl, rfl⟩)
  go_ret
  exact H.out
set_option maxRecDepth 100000 in
set_option maxHeartbeats 1000000 in
theorem rcut_arg (h : Rp S w g R A c d) (hok : DOk d) (hln : d.l.length ≤ 1000000) (ho : d.off = false) {f : Fl} (hf : find nm d.l = some f) (hm : m < 0 ∨ (f.dt.length : Int) < m) :
    Calls Try.prog 36 #[.pointer (some ⟨g, 0, none⟩), .string nm, .int .i64 m] w (Chr S w g 1 d) := by
  have c3 : w.cell? ⟨g, 3, none⟩ = some (.bool false) := by rw [← ho]; exact h.row.cell 3
  obtain ⟨k, hk, hn⟩ := find_ix hf
  have HA := hide (at_yes h hok.up hln hk hn)
  obtain ⟨b, off, s, rfl, hs, hkl, _⟩ := h.at_ hk
  obtain ⟨q0, q1, _⟩ := h.look hs
  have H := hide (Chr.same (h.rk hok) 1)
  clear h hok ho hf hk hs
  rcases hm with hm | hm
  · go_enter Try.func36, Try.ntmps36
    go_wp2_with (go_at_call 49; (with_reducible refine HA.out.mono ?_); rintro e w' ⟨rfl, rfl⟩)
    go_ret
    exact H.out
  · have hm0 : ¬ m < 0 := by omega
    go_enter Try.func36, Try.ntmps36
    go_wp2_with (go_at_call 49; (with_reducible refine HA.out.mono ?_); rintro e w' ⟨rfl, rfl⟩)
    go_ret
    exact H.out
set_option maxRecDepth 100000 in
set_option maxHeartbeats 1000000 in
theorem rcut_down (h : Rp S w g R A c d) (hok : DOk d) (hln : d.l.length ≤ 1000000) (ho : d.off = false) {f : Fl} (hf : find nm d.l = some f) {t : Nat} (hm : t ≤ f.dt.length) (h0 : d.left = 0) :
    Calls Try.prog 36 #[.pointer (some ⟨g, 0, none⟩), .string nm, .int .i64 t] w (Chr S w g 10 d.spent) := by
  have c3 : w.cell? ⟨g, 3, none⟩ = some (.bool false) := by rw [← ho]; exact h.row.cell 3
  obtain ⟨k, hk, hn⟩ := find_ix hf
  have HA := hide (at_yes h hok.up hln hk hn)
  have hsp : d.spends = false := by unfold DS.spends; rw [h0]; rfl
  have HP := hide (hsp ▸ power_any h hok)
  obtain ⟨b, off, s, rfl, hs, hkl, _⟩ := h.at_ hk
  obtain ⟨q0, q1, _⟩ := h.look hs
  have H := hide (show ∀ w', Rp S w' g R (some ⟨b, off, none⟩) c d.spent → w.grownBy w' (some g) → Chr S w g 10 d.spent (.returned (.int .i64 10)) w' from fun w' h1 h2 => ⟨rfl, S, h1.rk (dok_spent hok), Own.grown h.sg h2⟩)
  clear h hok ho hf hk hs h0 hsp
  go_enter Try.func36, Try.ntmps36
  go_wp2_with (first | (go_at_call 49; (with_reducible refine HA.out.mono ?_); rintro e w' ⟨rfl, rfl⟩) | (go_at_call 47; (with_reducible refine HP.out.mono ?_); rintro e w1 ⟨rfl, hR, hG⟩))
  go_ret
  exact H.out _ hR hG
set_option maxRecDepth 100000 in
set_option maxHeartbeats 4000000 in
theorem rcut_do (h : Rp S w g R A c d) (hok : DOk d) (hln : d.l.length ≤ 1000000) (ho : d.off = false) {f : Fl} (hf : find nm d.l = some f) {t : Nat} (hm : t ≤ f.dt.length) (h0 : d.left ≠ 0) :
    Calls Try.prog 36 #[.pointer (some ⟨g, 0, none⟩), .string nm, .int .i64 t] w (Chr S w g 0 { d.spent with l := putF ⟨nm, f.dt.take t, min f.kp t⟩ d.l }) := by
  obtain ⟨i0, hi, hz0, hz1, hz2⟩ := info_parts Try.info5
  have HI := hide (And.intro hi (And.intro hz0 (And.intro hz1 hz2)))
  have c3 : w.cell? ⟨g, 3, none⟩ = some (.bool false) := by rw [← ho]; exact h.row.cell 3
  obtain ⟨k, hk, hn⟩ := find_ix hf
  have HA := hide (at_yes h hok.up hln hk hn)
  have hsp : d.spends = true := by unfold DS.spends; simpa using h0
  have HP := hide (hsp ▸ power_any h hok)
  obtain ⟨b, off, s, rfl, hs, hkl, _⟩ := h.at_ hk
  obtain ⟨q0, q1, _⟩ := h.look hs
  have HT := hide (show (f.dt.take t).length = t from by rw [List.length_take]; omega)
  have hfl : f.dt.length ≤ 1048576 := flen hok (List.mem_of_getElem? hk)
  have HQ := hide (show ∀ w1, Rp S w1 g R (some ⟨b, off, none⟩) c d.spent → Bpq w1.drew g k b off d.spent.l.length c s f from fun w1 h1 => (h1.bpq hs).drew)
  have HB1 := hide (show ∀ w1 w' v, Rp S w1 g R (some ⟨b, off, none⟩) c d.spent → w.grownBy w1 (some g) → Below w1.drew.heap.size w1.drew w' → w'.ownsRow w1.drew.heap.size 5 1 v t (cellsOf (f.dt.take t)) →
      ∃ s' : Ps, v = .slice s'.A t s'.2 ∧ ∃ S2, Rp S2 (w'.setCell ⟨b, off + k * 3 + 1, none⟩ v) g (R.set k (⟨f.nm, f.dt.take t, f.kp⟩, s')) (some ⟨b, off, none⟩) c { d.spent with l := d.spent.l.set k ⟨f.nm, f.dt.take t, f.kp⟩ } ∧ Own S w S2 (w'.setCell ⟨b, off + k * 3 + 1, none⟩ v) from by
    intro w1 w' v h1 hG hb hv
    obtain ⟨s', e, S2, h2, h3⟩ := h1.drew.bytes hs hb HT.out hv
    exact ⟨s', e, S2, h2, (Own.grown h.sg hG).trans (own_drew h3)⟩)
  have HB2 := hide (show ∀ w2 S2 s', Rp S2 w2 g (R.set k (⟨f.nm, f.dt.take t, f.kp⟩, s')) (some ⟨b, off, none⟩) c { d.spent with l := d.spent.l.set k ⟨f.nm, f.dt.take t, f.kp⟩ } → Own S w S2 w2 →
      Bpq w2 g k b off (d.spent.l.set k ⟨f.nm, f.dt.take t, f.kp⟩).length c s' ⟨f.nm, f.dt.take t, f.kp⟩ ∧ Chr S w g 0 { d.spent with l := putF ⟨nm, f.dt.take t, min f.kp t⟩ d.l } (.returned (.int .i64 0)) (w2.setCell ⟨b, off + k * 3 + 2, none⟩ (.int .i64 (min (f.kp : Int) (t : Int)))).drew from by
    intro w2 S2 s' h2 hO
    have hkR : k < R.length := (List.getElem?_eq_some_iff.1 hs).1
    have hs2 : (R.set k ((⟨f.nm, f.dt.take t, f.kp⟩ : Fl), s'))[k]? = some (⟨f.nm, f.dt.take t, f.kp⟩, s') := by rw [List.getElem?_set_self hkR]
    obtain ⟨S3, h3, hO3⟩ := h2.keeps hs2 (min f.kp t)
    have hm2 := List.mem_of_getElem? hk
    have hok2 : DOk { d.spent with l := putF ⟨nm, f.dt.take t, min f.kp t⟩ d.l } := by
      have := dok_put (dok_spent hok) ⟨nm, f.dt.take t, min f.kp t⟩ (by have := HT.out; simp only; omega) (by rw [← hn]; exact hok.nm f hm2) (fun z hz => hok.oct f hm2 z (List.mem_of_mem_take hz)) (by
        rw [spent_l, spent_q]; simp only; rw [hf, HT.out]; simp only [lenO]; have := hok.tot; omega)
      rw [spent_l] at this; exact this
    simp only [List.set_set] at h3
    rw [show ((min f.kp t : Nat) : Int) = min (f.kp : Int) (t : Int) by omega] at h3 hO3
    rw [spent_l, show d.l.set k (⟨f.nm, f.dt.take t, min f.kp t⟩ : Fl) = putF ⟨nm, f.dt.take t, min f.kp t⟩ d.l from by rw [hn]; exact (putF_set hn.symm hok.up hk).symm] at h3
    exact ⟨h2.bpq hs2, rfl, _, (h3.below (below_drew _)).rk hok2, own_drewr (hO.trans hO3)⟩)
  clear h hok ho hf hk hs h0 hsp hi hz0 hz1 hz2 hn
  go_enter Try.func36, Try.ntmps36
  go_upto_region 10 with (first | (go_at_call 49; (with_reducible refine HA.out.mono ?_); rintro e w' ⟨rfl, rfl⟩) | (go_at_call 47; (with_reducible refine HP.out.mono ?_); rintro e w1 ⟨rfl, hR, hG⟩))
  have QQ := hide (HQ.out _ hR)
  have FIN := hide (fun w' v => HB1.out _ w' v hR hG)
  have hknl := QQ.out.hk
  clear HQ HB1 hR hG HA HP c3 q0 q1
  have hcs : t ≤ s.2 := Nat.le_trans hm QQ.out.cap
  refine wp_region_noPanic ?_
  refine wp_region_T 19 (fun w' => w'.cell? ⟨g, 0, none⟩ = some (.slice (some ⟨b, off, none⟩) d.spent.l.length c) ∧ w'.cell? ⟨b, off + k * 3 + 1, none⟩ = some (.slice s.A f.dt.length s.2)) (by kernel_rfl) ?_
  generalize World.drew _ = wd at QQ FIN ⊢
  refine anyT_take (i := 0) (v := ?ov0) (by simp only [List.getElem?_toArray, List.getElem?_cons_zero]; exact rfl) (by kernel_rfl) (by kernel_rfl) (fun _ _ _ h => h) (by kernel_rfl) (by kernel_rfl) (Or.inl ⟨by rfl, ?oy0⟩) (by with_reducible exact (QQ.out.two (Below.refl _ _))) ?or0
  case oy0 => (intro w hSw; (try dsimp only at hSw); go_simp; try with_reducible rfl)
  try simp only [Act.put, List.setIfInBounds_toArray, List.set_cons_zero, List.set_cons_succ]
  refine anyT_take (i := 1) (v := ?ov1) (by simp only [List.getElem?_toArray, List.getElem?_cons_succ, List.getElem?_cons_zero]; exact rfl) (by kernel_rfl) (by kernel_rfl) (fun _ _ _ h => h) (by kernel_rfl) (by kernel_rfl) (Or.inl ⟨by rfl, ?oy1⟩) (by with_reducible exact (QQ.out.two (Below.refl _ _))) ?or1
  case oy1 => (intro w hSw; (try dsimp only at hSw); go_simp; try with_reducible rfl)
  try simp only [Act.put, List.setIfInBounds_toArray, List.set_cons_zero, List.set_cons_succ]
  refine anyT_take (i := 2) (v := ?ov2) (by simp only [List.getElem?_toArray, List.getElem?_cons_succ, List.getElem?_cons_zero]; exact rfl) (by kernel_rfl) (by kernel_rfl) (fun _ _ _ h => h) (by kernel_rfl) (by kernel_rfl) (Or.inl ⟨by rfl, ?oy2⟩) (by with_reducible exact (QQ.out.two (Below.refl _ _))) ?or2
  case oy2 => (intro w hSw; (try dsimp only at hSw); go_simp; try with_reducible rfl)
  try simp only [Act.put, List.setIfInBounds_toArray, List.set_cons_zero, List.set_cons_succ]
  refine anyT_take (i := 3) (v := ?ov3) (by simp only [List.getElem?_toArray, List.getElem?_cons_succ, List.getElem?_cons_zero]; exact rfl) (by kernel_rfl) (by kernel_rfl) (fun _ _ _ h => h) (by kernel_rfl) (by kernel_rfl) (Or.inl ⟨by rfl, ?oy3⟩) (by with_reducible exact (QQ.out.two (Below.refl _ _))) ?or3
  case oy3 => (intro w hSw; (try dsimp only at hSw); go_simp; try with_reducible rfl)
  try simp only [Act.put, List.setIfInBounds_toArray, List.set_cons_zero, List.set_cons_succ]
  refine anyT_take (i := 4) (v := ?ov4) (by simp only [List.getElem?_toArray, List.getElem?_cons_succ, List.getElem?_cons_zero]; exact rfl) (by kernel_rfl) (by kernel_rfl) (fun _ _ _ h => h) (by kernel_rfl) (by kernel_rfl) (Or.inl ⟨by rfl, ?oy4⟩) (by with_reducible exact (QQ.out.two (Below.refl _ _))) ?or4
  case oy4 => (intro w hSw; (try dsimp only at hSw); go_simp; try with_reducible rfl)
  try simp only [Act.put, List.setIfInBounds_toArray, List.set_cons_zero, List.set_cons_succ]
  refine anyT_take (i := 6) (v := ?ov6) (by simp only [List.getElem?_toArray, List.getElem?_cons_succ, List.getElem?_cons_zero]; exact rfl) (by kernel_rfl) (by kernel_rfl) (fun _ _ _ h => h) (by kernel_rfl) (by kernel_rfl) (Or.inl ⟨by rfl, ?oy6⟩) (by with_reducible exact (QQ.out.two (Below.refl _ _))) ?or6
  case oy6 => (intro w hSw; (try dsimp only at hSw); go_simp; try with_reducible rfl)
  try simp only [Act.put, List.setIfInBounds_toArray, List.set_cons_zero, List.set_cons_succ]
  refine anyT_take (i := 7) (v := ?ov7) (by simp only [List.getElem?_toArray, List.getElem?_cons_succ, List.getElem?_cons_zero]; exact rfl) (by kernel_rfl) (by kernel_rfl) (fun _ _ _ h => h) (by kernel_rfl) (by kernel_rfl) (Or.inl ⟨by rfl, ?oy7⟩) (by with_reducible exact (QQ.out.two (Below.refl _ _))) ?or7
  case oy7 => (intro w hSw; (try dsimp only at hSw); go_simp; try with_reducible rfl)
  try simp only [Act.put, List.setIfInBounds_toArray, List.set_cons_zero, List.set_cons_succ]
  refine anyT_take (i := 8) (v := ?ov8) (by simp only [List.getElem?_toArray, List.getElem?_cons_succ, List.getElem?_cons_zero]; exact rfl) (by kernel_rfl) (by kernel_rfl) (fun _ _ _ h => h) (by kernel_rfl) (by kernel_rfl) (Or.inl ⟨by rfl, ?oy8⟩) (by with_reducible exact (QQ.out.two (Below.refl _ _))) ?or8
  case oy8 => (intro w hSw; (try dsimp only at hSw); go_simp; try with_reducible rfl)
  try simp only [Act.put, List.setIfInBounds_toArray, List.set_cons_zero, List.set_cons_succ]
  refine anyT_take (i := 9) (v := ?ov9) (by simp only [List.getElem?_toArray, List.getElem?_cons_succ, List.getElem?_cons_zero]; exact rfl) (by kernel_rfl) (by kernel_rfl) (fun _ _ _ h => h) (by kernel_rfl) (by kernel_rfl) (Or.inl ⟨by rfl, ?oy9⟩) (by with_reducible exact (QQ.out.two (Below.refl _ _))) ?or9
  case oy9 => (intro w hSw; (try dsimp only at hSw); go_simp; try with_reducible rfl)
  try simp only [Act.put, List.setIfInBounds_toArray, List.set_cons_zero, List.set_cons_succ]
  refine anyT_take (i := 10) (v := ?ov10) (by simp only [List.getElem?_toArray, List.getElem?_cons_succ, List.getElem?_cons_zero]; exact rfl) (by kernel_rfl) (by kernel_rfl) (fun _ _ _ h => h) (by kernel_rfl) (by kernel_rfl) (Or.inl ⟨by rfl, ?oy10⟩) (by with_reducible exact (QQ.out.two (Below.refl _ _))) ?or10
  case oy10 => (intro w hSw; (try dsimp only at hSw); go_simp; try with_reducible rfl)
  try simp only [Act.put, List.setIfInBounds_toArray, List.set_cons_zero, List.set_cons_succ]
  refine anyT_take (i := 11) (v := ?ov11) (by simp only [List.getElem?_toArray, List.getElem?_cons_succ, List.getElem?_cons_zero]; exact rfl) (by kernel_rfl) (by kernel_rfl) (fun _ _ _ h => h) (by kernel_rfl) (by kernel_rfl) (Or.inl ⟨by rfl, ?oy11⟩) (by with_reducible exact (QQ.out.two (Below.refl _ _))) ?or11
  case oy11 => (intro w hSw; (try dsimp only at hSw); go_simp; try with_reducible rfl)
  try simp only [Act.put, List.setIfInBounds_toArray, List.set_cons_zero, List.set_cons_succ]
  refine anyT_take (i := 12) (v := ?ov12) (by simp only [List.getElem?_toArray, List.getElem?_cons_succ, List.getElem?_cons_zero]; exact rfl) (by kernel_rfl) (by kernel_rfl) (fun _ _ _ h => h) (by kernel_rfl) (by kernel_rfl) (Or.inl ⟨by rfl, ?oy12⟩) (by with_reducible exact (QQ.out.two (Below.refl _ _))) ?or12
  case oy12 => (intro w hSw; (try dsimp only at hSw); go_simp; try with_reducible rfl)
  try simp only [Act.put, List.setIfInBounds_toArray, List.set_cons_zero, List.set_cons_succ]
  refine anyT_take (i := 13) (v := ?ov13) (by simp only [List.getElem?_toArray, List.getElem?_cons_succ, List.getElem?_cons_zero]; exact rfl) (by kernel_rfl) (by kernel_rfl) (fun _ _ _ h => h) (by kernel_rfl) (by kernel_rfl) (Or.inl ⟨by rfl, ?oy13⟩) (by with_reducible exact (QQ.out.two (Below.refl _ _))) ?or13
  case oy13 => (intro w hSw; (try dsimp only at hSw); go_simp; try with_reducible rfl)
  try simp only [Act.put, List.setIfInBounds_toArray, List.set_cons_zero, List.set_cons_succ]
  refine anyT_take (i := 14) (v := ?ov14) (by simp only [List.getElem?_toArray, List.getElem?_cons_succ, List.getElem?_cons_zero]; exact rfl) (by kernel_rfl) (by kernel_rfl) (fun _ _ _ h => h) (by kernel_rfl) (by kernel_rfl) (Or.inl ⟨by rfl, ?oy14⟩) (by with_reducible exact (QQ.out.two (Below.refl _ _))) ?or14
  case oy14 => (intro w hSw; (try dsimp only at hSw); go_simp; try with_reducible rfl)
  try simp only [Act.put, List.setIfInBounds_toArray, List.set_cons_zero, List.set_cons_succ]
  refine anyT_take (i := 15) (v := ?ov15) (by simp only [List.getElem?_toArray, List.getElem?_cons_succ, List.getElem?_cons_zero]; exact rfl) (by kernel_rfl) (by kernel_rfl) (fun _ _ _ h => h) (by kernel_rfl) (by kernel_rfl) (Or.inl ⟨by rfl, ?oy15⟩) (by with_reducible exact (QQ.out.two (Below.refl _ _))) ?or15
  case oy15 => (intro w hSw; (try dsimp only at hSw); go_simp; try with_reducible rfl)
  try simp only [Act.put, List.setIfInBounds_toArray, List.set_cons_zero, List.set_cons_succ]
  have HB := hide (Below.refl wd.heap.size wd)
  refine anyT_one (i := 5) (by kernel_rfl) (by simp only [List.getElem?_toArray, List.getElem?_cons_succ, List.getElem?_cons_zero]; exact rfl) (fun K hK => ?_)
  go_simp
  have HBN := hide (HB.out.alloc HB.out.size (.cells #[] 5))
  have HG := hide (show (wd.alloc (.cells #[] 5)).ownsRow wd.heap.size 5 1 (.slice (some ⟨wd.heap.size, 0, none⟩) 0 0) 0 (cellsOf []) from wd.ownsRow_made #[] 0 (Nat.le_refl _) (by unfold maxLen; omega) rfl)
  refine hK.out _ _ (fun _ => QQ.out.two HBN.out) ?_
  clear hK K HB
  try simp only [Act.put, List.setIfInBounds_toArray, List.set_cons_zero, List.set_cons_succ]
  generalize World.alloc wd _ = wa at HBN HG ⊢
  have HB := HBN
  clear HBN
  refine anyT_one (i := 16) (by kernel_rfl) (by simp only [List.getElem?_toArray, List.getElem?_cons_succ, List.getElem?_cons_zero]; exact rfl) (fun K hK => ?_)
  refine step_append_bytes (by rfl) (.tmp 44) (.tmp 54) 27 (by rfl) wd.heap.size 5 i0 _ Try.underlying27 HI.out.1 HI.out.2.1 HI.out.2.2.1 HI.out.2.2.2 rfl _ 0 [] (by rfl) HG.out s.A t s.2 (f.dt.take t) (by rfl) HT.out QQ.out.nil ((QQ.out.old.below HB.out).take t) (by omega) HB.out.size (fun v1 w14 hO hb => ?_)
  have HBN := hide (HB.out.trans hb)
  rw [Nat.zero_add, List.nil_append] at hO
  obtain ⟨s', rfl, S2, hR2, hO2⟩ := FIN.out _ _ HBN.out hO
  have HF2 := hide (HB2.out _ _ _ hR2 hO2)
  clear hR2 hO2 HB2 FIN
  refine hK.out _ _ (fun _ => QQ.out.two HBN.out) ?_
  clear hK K HB HG hO hb
  try simp only [Act.put, List.setIfInBounds_toArray, List.set_cons_zero, List.set_cons_succ]
  have HB := HBN
  clear HBN
  refine anyT_one (i := 17) (by kernel_rfl) (by simp only [List.getElem?_toArray, List.getElem?_cons_succ, List.getElem?_cons_zero]; exact rfl) (fun K hK => ?_)
  go_simp
  refine hK.out _ _ (fun _ => QQ.out.two HB.out) ?_
  clear hK K
  try simp only [Act.put, List.setIfInBounds_toArray, List.set_cons_zero, List.set_cons_succ]
  refine anyT_one (i := 18) (by kernel_rfl) (by simp only [List.getElem?_toArray, List.getElem?_cons_succ, List.getElem?_cons_zero]; exact rfl) (fun K hK => ?_)
  go_simp
  refine hK.out _ _ (fun _ => QQ.out.two HB.out) ?_
  clear hK K
  try simp only [Act.put, List.setIfInBounds_toArray, List.set_cons_zero, List.set_cons_succ]
  refine anyT_one (i := 19) (by kernel_rfl) (by simp only [List.getElem?_toArray, List.getElem?_cons_succ, List.getElem?_cons_zero]; exact rfl) (fun K hK => ?_)
  have f0 : World.frozen? _ ⟨b, off + k * 3 + 1, none⟩ = false := frozen_below QQ.out.f1 HB.out QQ.out.hb
  have f1 := (QQ.out.two HB.out).2
  go_simp
  refine hK.out _ _ (fun e => absurd rfl e) ?_
  clear hK K f0 f1
  refine anyT_done (by kernel_rfl) ?_
  refine NoPanic.normal ?_
  clear QQ HB HI HT
  generalize World.setCell _ _ _ = w2 at HF2 ⊢
  have q0 := HF2.out.1.c0
  have q1 := HF2.out.1.c1
  have q2 := HF2.out.1.c2
  have z2 := HF2.out.1.f2
  have hkn2 := HF2.out.1.hk
  have HH := hide HF2.out.2
  clear HF2
  go_upto_region 11 with fail
  go_region
  go_wp2
  go_ret
  exact HH.out
theorem rcut_any (h : Rp S w g R A c d) (hok : DOk d) (hln : d.l.length ≤ 1000000) (m : Int) :
    Calls Try.prog 36 #[.pointer (some ⟨g, 0, none⟩), .string nm, .int .i64 m] w (Chr S w g (cutE d nm m) (cutS d nm m)) := by
  unfold cutE cutS
  cases ho : d.off with
  | true => rw [if_pos rfl, if_pos rfl]; exact rcut_off h hok hln ho
  | false =>
    rw [if_neg Bool.false_ne_true, if_neg Bool.false_ne_true]
    cases hf : find nm d.l with
    | none => exact rcut_none h hok hln ho hf
    | some f =>
      simp only
      by_cases hm : m < 0 ∨ (f.dt.length : Int) < m
      · rw [if_pos hm, if_pos hm]; exact rcut_arg h hok hln ho hf hm
      · rw [if_neg hm, if_neg hm]
        obtain ⟨t, rfl⟩ : ∃ t : Nat, m = t := ⟨m.toNat, by omega⟩
        by_cases h0 : d.left = 0
        · rw [if_pos h0, if_pos h0]; exact rcut_down h hok hln ho hf (by omega) h0
        · rw [if_neg h0, if_neg h0]; exact rcut_do h hok hln ho hf (by omega) h0
end
end Go.Proofs.Ytllgjbkmemheoaa
