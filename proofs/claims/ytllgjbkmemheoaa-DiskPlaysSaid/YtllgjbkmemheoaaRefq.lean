/- A file comes into the document's disk, if it isn't there. Conditions: the slice has room. -/
import Derived.Test.YtllgjbkmemheoaaRefo
import Derived.Deep.CutBlock
namespace Go.Proofs.Ytllgjbkmemheoaa
open Go.RowKit Go.Maps
/-- Where a file stands, or would stand. -/
structure PlK (nm : ByteArray) (l : List Fl) (k : Nat) : Prop where
  le : k ≤ l.length
  low : ∀ j x, j < k → l[j]? = some x → ltB x.nm nm = true
  up : ∀ x, l[k]? = some x → ltB x.nm nm = false
theorem plk_none {nm : ByteArray} {l : List Fl} {k : Nat} (h : PlK nm l k) (hu : Up l) (hn : ∀ x, l[k]? = some x → x.nm ≠ nm) : find nm l = none := by
  rw [find_none]
  intro x hx e
  obtain ⟨i, hi⟩ := List.mem_iff_getElem?.1 hx
  rcases Nat.lt_trichotomy i k with h1 | rfl | h1
  · have := h.low i x h1 hi
    rw [e, lt_self] at this; cases this
  · exact hn x hi e
  · obtain ⟨hil, hie⟩ := List.getElem?_eq_some_iff.1 hi
    have hkl : k < l.length := by omega
    have := (List.pairwise_iff_getElem.1 hu) k i hkl hil h1
    rw [hie, e, h.up _ (List.getElem?_eq_getElem hkl)] at this
    cases this
theorem plk_put {nm : ByteArray} {l : List Fl} {k : Nat} (h : PlK nm l k) (hf : find nm l = none) : plcL nm l = l.take k ++ [⟨nm, [], 0⟩] ++ l.drop k ∧ (plcL nm l)[k]? = some ⟨nm, [], 0⟩ := by
  have e : plcL nm l = l.take k ++ [⟨nm, [], 0⟩] ++ l.drop k := by
    unfold plcL
    rw [hf, if_neg (by simp)]
    exact putF_at h.low (fun x hx => ⟨h.up x hx, find_none.1 hf x (List.mem_of_getElem? hx)⟩) h.le
  refine ⟨e, ?_⟩
  have hl := h.le
  rw [e, List.append_assoc, List.getElem?_append_right (by rw [List.length_take]; omega), List.length_take, show k - min k l.length = 0 by omega]
  rfl
theorem plk_same {nm : ByteArray} {l : List Fl} {k : Nat} (hu : Up l) {x : Fl} (hx : l[k]? = some x) (e : x.nm = nm) : plcL nm l = l := by
  unfold plcL
  rw [← e, find_at hu hx, if_pos (show (some x).isSome = true from rfl)]
theorem file_row {w : World} {b : Nat} {t : TypeId} {nm : ByteArray} (h : Row w b t #[.string nm, .slice none 0 0, .int .i64 0]) : Lies3 w (some ⟨b, 0, none⟩) [(⟨nm, [], 0⟩, (none, 0))] := fun _ => ⟨b, 0, rfl, h.lt, fun k x hk => by
  cases k with
  | zero =>
    simp at hk
    subst hk
    exact ⟨h.cell 0, h.cell 1, h.cell 2⟩
  | succ k => simp at hk⟩
/-- What the call comes to. -/
def Plc (S : Nat → Prop) (w : World) (g : Nat) (nm : ByteArray) (d : DS) (e : Ending) (w' : World) : Prop := ∃ (k : Nat) (f : Fl) (S' : Nat → Prop) (R' : List (Fl × Ps)) (A' : Option Addr) (c' : Nat),
  e = .returned (.int .i64 k) ∧ Rp S' w' g R' A' c' { d with l := plcL nm d.l } ∧ (Own S w S' w' ∧ Turn (fun k => k = g) w w') ∧ (plcL nm d.l)[k]? = some f ∧ f.nm = nm
section
variable {S : Nat → Prop} {w : World} {g : Nat} {R : List (Fl × Ps)} {A : Option Addr} {c : Nat} {d : DS}
set_option maxRecDepth 100000 in
set_option maxHeartbeats 4000000 in
theorem place_any (h : Rp S w g R A c d) (hu : Up d.l) (nm : ByteArray) (hln : d.l.length ≤ 1000000) :
    Calls Try.prog 48 #[.pointer (some ⟨g, 0, none⟩), .string nm] w (Plc S w g nm d) := by
  obtain ⟨hcap, hnil⟩ := own3_cap h.own
  have hlen := (lies3_own h.own).2
  have HCAP := hide hcap; have HNIL := hide hnil; have HLEN := hide hlen; have HU := hide hu
  have c0 : w.cell? ⟨g, 0, none⟩ = some (.slice A d.l.length c) := h.row.cell 0
  have H := hide h
  clear h hnil hlen hu
  go_enter Try.func48, Try.ntmps48
  go_upto_block 0 with fail
  go_cut [5] from 5 to 26 (fun s5 wx => ∃ k : Nat, s5 = .int .i64 k ∧ k ≤ d.l.length ∧ Hid (PlK nm d.l k) ∧ w = wx)
  case first =>
    go_wp2
    go_loop [5] (fun i => ∃ k : Nat, k ≤ d.l.length ∧ i = .int .i64 k ∧ Hid (∀ j x, j < k → d.l[j]? = some x → ltB x.nm nm = true)) (fun i => d.l.length - (intOf i).toNat)
    case atStart => exact ⟨0, by omega, rfl, fun j f hj => absurd hj (by omega)⟩
    case round =>
      obtain ⟨k, hk, rfl, hs⟩ := hrel
      by_cases hlt : k < d.l.length
      · obtain ⟨b, off, s, rfl, _, _, n0, _, _⟩ := H.out.at_ (List.getElem?_eq_getElem hlt)
        by_cases he : ltB d.l[k].nm nm = true
        · have HS := hide (show ∀ j x, j < k + 1 → d.l[j]? = some x → ltB x.nm nm = true from fun j f hj hf => by
            rcases Nat.lt_or_ge j k with h | h
            · exact hs.out j f h hf
            · obtain rfl : j = k := by omega
              rw [List.getElem?_eq_getElem hlt] at hf
              injection hf with hf
              rw [← hf]; exact he)
          have hE : Op.bytesLess d.l[k].nm.toList nm.toList = true := he
          clear hs he
          go_wp2
          go_round
          case rel => exact ⟨k + 1, by omega, by go_num, HS⟩
          case measure => simp [intOf]; omega
        · have HP := hide (show PlK nm d.l k from ⟨hk, hs.out, fun x hx => by
            rw [List.getElem?_eq_getElem hlt] at hx
            injection hx with hx
            rw [← hx]; simpa using he⟩)
          have hE : Op.bytesLess d.l[k].nm.toList nm.toList = false := by simpa [ltB] using he
          clear hs he
          go_wp2
          go_meet
          exact ⟨k, rfl, hk, HP, rfl⟩
      · have HP := hide (show PlK nm d.l k from ⟨hk, hs.out, fun x hx => by rw [List.getElem?_eq_none (by omega)] at hx; cases hx⟩)
        clear hs
        go_wp2
        go_meet
        exact ⟨k, rfl, hk, HP, rfl⟩
  case rest =>
    obtain ⟨k, rfl, hk, HP, rfl⟩ := hcut
    go_upto_region 4 with (fail)
    go_cut [45] (fun s45 wx => ∃ t : Bool, s45 = .bool t ∧ (if t = true then find nm d.l = none else ∃ x, d.l[k]? = some x ∧ x.nm = nm) ∧ w = wx)
    case first =>
      by_cases hlt : k < d.l.length
      · obtain ⟨b, off, s, rfl, _, _, n0, _, _⟩ := H.out.at_ (List.getElem?_eq_getElem hlt)
        have hne : ¬ (k : Int) = (d.l.length : Int) := by omega
        by_cases he : d.l[k].nm = nm
        · have hE : (d.l[k].nm.toList == nm.toList) = true := by rw [he]; simp
          have HT := hide (show ∃ x, d.l[k]? = some x ∧ x.nm = nm from ⟨_, List.getElem?_eq_getElem hlt, he⟩)
          clear he
          go_wp2
          go_meet
          exact ⟨false, (by simp; omega), HT.out, rfl⟩
        · have hE : (d.l[k].nm.toList == nm.toList) = false := by
            cases hx : (d.l[k].nm.toList == nm.toList)
            · rfl
            · exact absurd (text_ext (beq_iff_eq.1 hx)) he
          have HT := hide (plk_none HP.out HU.out (fun x hx => by
            rw [List.getElem?_eq_getElem hlt] at hx
            injection hx with hx
            rw [← hx]; exact he))
          clear he
          go_wp2
          go_meet
          exact ⟨true, rfl, HT.out, rfl⟩
      · have HT := hide (plk_none HP.out HU.out (fun x hx => by rw [List.getElem?_eq_none (by omega)] at hx; cases hx))
        have hkn : k = d.l.length := by omega
        clear hlt
        subst hkn
        go_wp2
        go_meet
        exact ⟨true, rfl, HT.out, rfl⟩
    case rest =>
      obtain ⟨t, rfl, ht, rfl⟩ := hcut
      cases t with
      | false =>
        have HT := hide ht
        clear ht
        go_wp2
        go_ret
        obtain ⟨x, hx, e⟩ := HT.out
        have es := plk_same HU.out hx e
        refine ⟨k, x, S, R, A, c, rfl, ?_, ⟨Own.refl _ _, Turn.refl _ _⟩, ?_, e⟩
        · rw [es]; exact H.out
        · rw [es]; exact hx
      | true =>
        have HT := hide (plk_put HP.out ht)
        have hc1 : k ≤ c := by omega
        have HO := hide (fun S' w' => own_drew2 (S := S) (S' := S') (T := fun k => k = g) (w := w) (w' := w'))
        have QQ := hide (H.out.below (below_drew w))
        clear ht H c0
        go_upto_region 5 with (fail)
        refine wp_region_noPanic ?_
        refine wp_region_T 22 (fun w' => w'.cell? ⟨g, 0, none⟩ = some (.slice A d.l.length c)) (by kernel_rfl) ?_
        generalize World.drew _ = wd at QQ HO ⊢
        refine anyT_take (i := 0) (v := ?ov0) (by simp only [List.getElem?_toArray, List.getElem?_cons_zero]; exact rfl) (by kernel_rfl) (by kernel_rfl) (fun _ _ _ h => h) (by kernel_rfl) (by kernel_rfl) (Or.inl ⟨by rfl, ?oy0⟩) (by with_reducible exact (QQ.out.c0)) ?or0
        case oy0 => (intro w hSw; (try dsimp only at hSw); go_simp; try with_reducible rfl)
        try simp only [Act.put, List.setIfInBounds_toArray, List.set_cons_zero, List.set_cons_succ]
        refine anyT_take (i := 2) (v := ?ov2) (by simp only [List.getElem?_toArray, List.getElem?_cons_succ, List.getElem?_cons_zero]; exact rfl) (by kernel_rfl) (by kernel_rfl) (fun _ _ _ h => h) (by kernel_rfl) (by kernel_rfl) (Or.inl ⟨by rfl, ?oy2⟩) (by with_reducible exact (QQ.out.c0)) ?or2
        case oy2 => (intro w hSw; (try dsimp only at hSw); go_simp; try with_reducible rfl)
        try simp only [Act.put, List.setIfInBounds_toArray, List.set_cons_zero, List.set_cons_succ]
        refine anyT_take (i := 3) (v := ?ov3) (by simp only [List.getElem?_toArray, List.getElem?_cons_succ, List.getElem?_cons_zero]; exact rfl) (by kernel_rfl) (by kernel_rfl) (fun _ _ _ h => h) (by kernel_rfl) (by kernel_rfl) (Or.inl ⟨by rfl, ?oy3⟩) (by with_reducible exact (QQ.out.c0)) ?or3
        case oy3 => (intro w hSw; (try dsimp only at hSw); go_simp; try with_reducible rfl)
        try simp only [Act.put, List.setIfInBounds_toArray, List.set_cons_zero, List.set_cons_succ]
        refine anyT_take (i := 4) (v := ?ov4) (by simp only [List.getElem?_toArray, List.getElem?_cons_succ, List.getElem?_cons_zero]; exact rfl) (by kernel_rfl) (by kernel_rfl) (fun _ _ _ h => h) (by kernel_rfl) (by kernel_rfl) (Or.inl ⟨by rfl, ?oy4⟩) (by with_reducible exact (QQ.out.c0)) ?or4
        case oy4 => (intro w hSw; (try dsimp only at hSw); go_simp; try with_reducible rfl)
        try simp only [Act.put, List.setIfInBounds_toArray, List.set_cons_zero, List.set_cons_succ]
        refine anyT_take (i := 5) (v := ?ov5) (by simp only [List.getElem?_toArray, List.getElem?_cons_succ, List.getElem?_cons_zero]; exact rfl) (by kernel_rfl) (by kernel_rfl) (fun _ _ _ h => h) (by kernel_rfl) (by kernel_rfl) (Or.inl ⟨by rfl, ?oy5⟩) (by with_reducible exact (QQ.out.c0)) ?or5
        case oy5 => (intro w hSw; (try dsimp only at hSw); go_simp; try with_reducible rfl)
        try simp only [Act.put, List.setIfInBounds_toArray, List.set_cons_zero, List.set_cons_succ]
        refine anyT_take (i := 6) (v := ?ov6) (by simp only [List.getElem?_toArray, List.getElem?_cons_succ, List.getElem?_cons_zero]; exact rfl) (by kernel_rfl) (by kernel_rfl) (fun _ _ _ h => h) (by kernel_rfl) (by kernel_rfl) (Or.inl ⟨by rfl, ?oy6⟩) (by with_reducible exact (QQ.out.c0)) ?or6
        case oy6 => (intro w hSw; (try dsimp only at hSw); go_simp; try with_reducible rfl)
        try simp only [Act.put, List.setIfInBounds_toArray, List.set_cons_zero, List.set_cons_succ]
        refine anyT_take (i := 7) (v := ?ov7) (by simp only [List.getElem?_toArray, List.getElem?_cons_succ, List.getElem?_cons_zero]; exact rfl) (by kernel_rfl) (by kernel_rfl) (fun _ _ _ h => h) (by kernel_rfl) (by kernel_rfl) (Or.inl ⟨by rfl, ?oy7⟩) (by with_reducible exact (QQ.out.c0)) ?or7
        case oy7 => (intro w hSw; (try dsimp only at hSw); go_simp; try with_reducible rfl)
        try simp only [Act.put, List.setIfInBounds_toArray, List.set_cons_zero, List.set_cons_succ]
        refine anyT_take (i := 9) (v := ?ov9) (by simp only [List.getElem?_toArray, List.getElem?_cons_succ, List.getElem?_cons_zero]; exact rfl) (by kernel_rfl) (by kernel_rfl) (fun _ _ _ h => h) (by kernel_rfl) (by kernel_rfl) (Or.inl ⟨by rfl, ?oy9⟩) (by with_reducible exact (QQ.out.c0)) ?or9
        case oy9 => (intro w hSw; (try dsimp only at hSw); go_simp; try with_reducible rfl)
        try simp only [Act.put, List.setIfInBounds_toArray, List.set_cons_zero, List.set_cons_succ]
        refine anyT_take (i := 10) (v := ?ov10) (by simp only [List.getElem?_toArray, List.getElem?_cons_succ, List.getElem?_cons_zero]; exact rfl) (by kernel_rfl) (by kernel_rfl) (fun _ _ _ h => h) (by kernel_rfl) (by kernel_rfl) (Or.inl ⟨by rfl, ?oy10⟩) (by with_reducible exact (QQ.out.c0)) ?or10
        case oy10 => (intro w hSw; (try dsimp only at hSw); go_simp; try with_reducible rfl)
        try simp only [Act.put, List.setIfInBounds_toArray, List.set_cons_zero, List.set_cons_succ]
        refine anyT_take (i := 13) (v := ?ov13) (by simp only [List.getElem?_toArray, List.getElem?_cons_succ, List.getElem?_cons_zero]; exact rfl) (by kernel_rfl) (by kernel_rfl) (fun _ _ _ h => h) (by kernel_rfl) (by kernel_rfl) (Or.inl ⟨by rfl, ?oy13⟩) (by with_reducible exact (QQ.out.c0)) ?or13
        case oy13 => (intro w hSw; (try dsimp only at hSw); go_simp; try with_reducible rfl)
        try simp only [Act.put, List.setIfInBounds_toArray, List.set_cons_zero, List.set_cons_succ]
        refine anyT_take (i := 14) (v := ?ov14) (by simp only [List.getElem?_toArray, List.getElem?_cons_succ, List.getElem?_cons_zero]; exact rfl) (by kernel_rfl) (by kernel_rfl) (fun _ _ _ h => h) (by kernel_rfl) (by kernel_rfl) (Or.inl ⟨by rfl, ?oy14⟩) (by with_reducible exact (QQ.out.c0)) ?or14
        case oy14 => (intro w hSw; (try dsimp only at hSw); go_simp; try with_reducible rfl)
        try simp only [Act.put, List.setIfInBounds_toArray, List.set_cons_zero, List.set_cons_succ]
        refine anyT_take (i := 15) (v := ?ov15) (by simp only [List.getElem?_toArray, List.getElem?_cons_succ, List.getElem?_cons_zero]; exact rfl) (by kernel_rfl) (by kernel_rfl) (fun _ _ _ h => h) (by kernel_rfl) (by kernel_rfl) (Or.inl ⟨by rfl, ?oy15⟩) (by with_reducible exact (QQ.out.c0)) ?or15
        case oy15 => (intro w hSw; (try dsimp only at hSw); go_simp; try with_reducible rfl)
        try simp only [Act.put, List.setIfInBounds_toArray, List.set_cons_zero, List.set_cons_succ]
        refine anyT_take (i := 16) (v := ?ov16) (by simp only [List.getElem?_toArray, List.getElem?_cons_succ, List.getElem?_cons_zero]; exact rfl) (by kernel_rfl) (by kernel_rfl) (fun _ _ _ h => h) (by kernel_rfl) (by kernel_rfl) (Or.inl ⟨by rfl, ?oy16⟩) (by with_reducible exact (QQ.out.c0)) ?or16
        case oy16 => (intro w hSw; (try dsimp only at hSw); go_simp; try with_reducible rfl)
        try simp only [Act.put, List.setIfInBounds_toArray, List.set_cons_zero, List.set_cons_succ]
        refine anyT_take (i := 17) (v := ?ov17) (by simp only [List.getElem?_toArray, List.getElem?_cons_succ, List.getElem?_cons_zero]; exact rfl) (by kernel_rfl) (by kernel_rfl) (fun _ _ _ h => h) (by kernel_rfl) (by kernel_rfl) (Or.inl ⟨by rfl, ?oy17⟩) (by with_reducible exact (QQ.out.c0)) ?or17
        case oy17 => (intro w hSw; (try dsimp only at hSw); go_simp; try with_reducible rfl)
        try simp only [Act.put, List.setIfInBounds_toArray, List.set_cons_zero, List.set_cons_succ]
        refine anyT_take (i := 18) (v := ?ov18) (by simp only [List.getElem?_toArray, List.getElem?_cons_succ, List.getElem?_cons_zero]; exact rfl) (by kernel_rfl) (by kernel_rfl) (fun _ _ _ h => h) (by kernel_rfl) (by kernel_rfl) (Or.inl ⟨by rfl, ?oy18⟩) (by with_reducible exact (QQ.out.c0)) ?or18
        case oy18 => (intro w hSw; (try dsimp only at hSw); go_simp; try with_reducible rfl)
        try simp only [Act.put, List.setIfInBounds_toArray, List.set_cons_zero, List.set_cons_succ]
        have HB := hide (Below.refl wd.heap.size wd)
        refine anyT_two (i := 1) (j := 11) (by kernel_rfl) (by simp only [List.getElem?_toArray, List.getElem?_cons_succ, List.getElem?_cons_zero]; exact rfl) (by simp only [List.getElem?_toArray, List.getElem?_cons_succ, List.getElem?_cons_zero]; exact rfl) (fun K hK => ?_) (fun K hK => ?_)
        · skip
          go_simp
          have HBN := hide (HB.out.alloc HB.out.size (.cells #[] 78))
          have HGN := hide (Fw.start HB.out)
          refine hK.out _ _ (fun _ => (QQ.out.below HBN.out).c0) ?_
          clear hK K HB
          try simp only [Act.put, List.setIfInBounds_toArray, List.set_cons_zero, List.set_cons_succ]
          generalize World.alloc wd _ = wa at HBN HGN ⊢
          have HB := HBN
          clear HBN
          have HG := HGN
          clear HGN
          refine anyT_two (i := 8) (j := 11) (by kernel_rfl) (by simp only [List.getElem?_toArray, List.getElem?_cons_succ, List.getElem?_cons_zero]; exact rfl) (by simp only [List.getElem?_toArray, List.getElem?_cons_succ, List.getElem?_cons_zero]; exact rfl) (fun K hK => ?_) (fun K hK => ?_)
          · skip
            refine step_append_fw (by rfl) (.tmp 47) (.tmp 53) (by rfl) (by rfl) HG.out _ k _ (R.take k) (by rfl) (by rw [List.length_take, HLEN.out]; omega) HNIL.out ((lies3_own (QQ.out.below HB.out).own).1.take k) k (by omega) (by omega) (fun g8 cap8 wb hG hg hcap2 => ?_)
            have HBN := hide hG.low
            have HGN := hide hG
            refine hK.out _ _ (fun _ => (QQ.out.below HBN.out).c0) ?_
            clear hK K HB HG hG hg hcap2
            try simp only [Act.put, List.setIfInBounds_toArray, List.set_cons_zero, List.set_cons_succ]
            have HB := HBN
            clear HBN
            have HG := HGN
            clear HGN
            refine anyT_one (i := 11) (by kernel_rfl) (by simp only [List.getElem?_toArray, List.getElem?_cons_succ, List.getElem?_cons_zero]; exact rfl) (fun K hK => ?_)
            go_simp
            have HBN := hide (HB.out.alloc HB.out.size (.cells #[.string nm, .slice none 0 0, .int .i64 0] 78))
            have HRN := hide (Row.new wb 78 #[.string nm, .slice none 0 0, .int .i64 0])
            have HGN := hide (HG.out.alloc (.cells #[.string nm, .slice none 0 0, .int .i64 0] 78))
            have NE := hide (Nat.ne_of_gt HG.out.lt.2)
            refine hK.out _ _ (fun _ => (QQ.out.below HBN.out).c0) ?_
            clear hK K HB HG
            try simp only [Act.put, List.setIfInBounds_toArray, List.set_cons_zero, List.set_cons_succ]
            generalize World.alloc wb _ = wc at HBN HGN HRN ⊢
            have HB := HBN
            clear HBN
            have HG := HGN
            clear HGN
            have HR := HRN
            clear HRN
            refine anyT_one (i := 12) (by kernel_rfl) (by simp only [List.getElem?_toArray, List.getElem?_cons_succ, List.getElem?_cons_zero]; exact rfl) (fun K hK => ?_)
            refine step_append_fw (by rfl) (.tmp 54) (.tmp 57) (by rfl) (by rfl) HG.out _ 1 _ [(⟨nm, [], 0⟩, (none, 0))] (by rfl) rfl (fun e => by cases e) (file_row HR.out) (k + 1) rfl (by omega) (fun g12 cap12 wd hG hg hcap2 => ?_)
            have HBN := hide hG.low
            have HGN := hide hG
            refine hK.out _ _ (fun _ => (QQ.out.below HBN.out).c0) ?_
            clear hK K HB HG hG hg hcap2 HR
            try simp only [Act.put, List.setIfInBounds_toArray, List.set_cons_zero, List.set_cons_succ]
            have HB := HBN
            clear HBN
            have HG := HGN
            clear HGN
            refine anyT_one (i := 19) (by kernel_rfl) (by simp only [List.getElem?_toArray, List.getElem?_cons_succ, List.getElem?_cons_zero]; exact rfl) (fun K hK => ?_)
            refine step_append_fw (by rfl) (.tmp 58) (.tmp 64) (by rfl) (by rfl) HG.out (part3 A c k) (d.l.length - k) _ (R.drop k) (by rfl) (by rw [List.length_drop, HLEN.out]) (part3_none HNIL.out) ((lies3_own (QQ.out.below HB.out).own).1.rest (by rw [HLEN.out]; exact HCAP.out) k) (d.l.length + 1) (by omega) (by omega) (fun g19 cap19 we hG hg hcap2 => ?_)
            have HBN := hide hG.low
            have HGN := hide hG
            refine hK.out _ _ (fun _ => (QQ.out.below HBN.out).c0) ?_
            clear hK K HB HG hG hg hcap2
            try simp only [Act.put, List.setIfInBounds_toArray, List.set_cons_zero, List.set_cons_succ]
            have HB := HBN
            clear HBN
            have HG := HGN
            clear HGN
            refine anyT_one (i := 20) (by kernel_rfl) (by simp only [List.getElem?_toArray, List.getElem?_cons_succ, List.getElem?_cons_zero]; exact rfl) (fun K hK => ?_)
            go_simp
            refine hK.out _ _ (fun _ => ((QQ.out.below HB.out).c0)) ?_
            clear hK K
            try simp only [Act.put, List.setIfInBounds_toArray, List.set_cons_zero, List.set_cons_succ]
            refine anyT_one (i := 21) (by kernel_rfl) (by simp only [List.getElem?_toArray, List.getElem?_cons_succ, List.getElem?_cons_zero]; exact rfl) (fun K hK => ?_)
            go_simp
            refine hK.out _ _ (fun _ => ((QQ.out.below HB.out).c0)) ?_
            clear hK K
            try simp only [Act.put, List.setIfInBounds_toArray, List.set_cons_zero, List.set_cons_succ]
            refine anyT_one (i := 22) (by kernel_rfl) (by simp only [List.getElem?_toArray, List.getElem?_cons_succ, List.getElem?_cons_zero]; exact rfl) (fun K hK => ?_)
            have f0 := (QQ.out.below HB.out).row.free 0
            have f1 := (QQ.out.below HB.out).c0
            have fin := hide (QQ.out.relist HG.out (fun x hx => by simp only [List.nil_append, List.mem_append, List.mem_singleton] at hx; rcases hx with (hx | rfl) | hx; exact .inl (List.mem_of_mem_take hx); exact .inr ⟨rfl, rfl⟩; exact .inl (List.mem_of_mem_drop hx)) (l' := plcL nm d.l) (by rw [HT.out.1, List.nil_append, List.map_append, List.map_append, List.map_take, List.map_drop, QQ.out.ls]; rfl))
            go_simp
            refine hK.out _ _ (fun e => absurd rfl e) ?_
            clear hK K f0 f1
            refine anyT_done (by kernel_rfl) ?_
            refine NoPanic.normal ?_
            go_wp2_with fail
            all_goals go_ret
            all_goals exact ⟨k, _, _, _, _, _, rfl, fin.out.1, HO.out _ _ (Own.more fin.out.2.1) fin.out.2.2, HT.out.2, rfl⟩
          · skip
            go_simp
            have HBN := hide (HB.out.alloc HB.out.size (.cells #[.string nm, .slice none 0 0, .int .i64 0] 78))
            have HRN := hide (Row.new wa 78 #[.string nm, .slice none 0 0, .int .i64 0])
            have HGN := hide (HG.out.alloc (.cells #[.string nm, .slice none 0 0, .int .i64 0] 78))
            have NE := hide (Nat.ne_of_gt HG.out.lt.2)
            refine hK.out _ _ (fun _ => (QQ.out.below HBN.out).c0) ?_
            clear hK K HB HG
            try simp only [Act.put, List.setIfInBounds_toArray, List.set_cons_zero, List.set_cons_succ]
            generalize World.alloc wa _ = wb at HBN HGN HRN ⊢
            have HB := HBN
            clear HBN
            have HG := HGN
            clear HGN
            have HR := HRN
            clear HRN
            refine anyT_one (i := 8) (by kernel_rfl) (by simp only [List.getElem?_toArray, List.getElem?_cons_succ, List.getElem?_cons_zero]; exact rfl) (fun K hK => ?_)
            refine step_append_fw (by rfl) (.tmp 47) (.tmp 53) (by rfl) (by rfl) HG.out _ k _ (R.take k) (by rfl) (by rw [List.length_take, HLEN.out]; omega) HNIL.out ((lies3_own (QQ.out.below HB.out).own).1.take k) k (by omega) (by omega) (fun g8 cap8 wc hG hg hcap2 => ?_)
            have HBN := hide hG.low
            have HGN := hide hG
            have HRN := hide (HR.out.grown hg (fun e => NE.out (Option.some.inj e)))
            refine hK.out _ _ (fun _ => (QQ.out.below HBN.out).c0) ?_
            clear hK K HB HG hG hg hcap2 HR NE
            try simp only [Act.put, List.setIfInBounds_toArray, List.set_cons_zero, List.set_cons_succ]
            have HB := HBN
            clear HBN
            have HG := HGN
            clear HGN
            have HR := HRN
            clear HRN
            refine anyT_one (i := 12) (by kernel_rfl) (by simp only [List.getElem?_toArray, List.getElem?_cons_succ, List.getElem?_cons_zero]; exact rfl) (fun K hK => ?_)
            refine step_append_fw (by rfl) (.tmp 54) (.tmp 57) (by rfl) (by rfl) HG.out _ 1 _ [(⟨nm, [], 0⟩, (none, 0))] (by rfl) rfl (fun e => by cases e) (file_row HR.out) (k + 1) rfl (by omega) (fun g12 cap12 wd hG hg hcap2 => ?_)
            have HBN := hide hG.low
            have HGN := hide hG
            refine hK.out _ _ (fun _ => (QQ.out.below HBN.out).c0) ?_
            clear hK K HB HG hG hg hcap2 HR
            try simp only [Act.put, List.setIfInBounds_toArray, List.set_cons_zero, List.set_cons_succ]
            have HB := HBN
            clear HBN
            have HG := HGN
            clear HGN
            refine anyT_one (i := 19) (by kernel_rfl) (by simp only [List.getElem?_toArray, List.getElem?_cons_succ, List.getElem?_cons_zero]; exact rfl) (fun K hK => ?_)
            refine step_append_fw (by rfl) (.tmp 58) (.tmp 64) (by rfl) (by rfl) HG.out (part3 A c k) (d.l.length - k) _ (R.drop k) (by rfl) (by rw [List.length_drop, HLEN.out]) (part3_none HNIL.out) ((lies3_own (QQ.out.below HB.out).own).1.rest (by rw [HLEN.out]; exact HCAP.out) k) (d.l.length + 1) (by omega) (by omega) (fun g19 cap19 we hG hg hcap2 => ?_)
            have HBN := hide hG.low
            have HGN := hide hG
            refine hK.out _ _ (fun _ => (QQ.out.below HBN.out).c0) ?_
            clear hK K HB HG hG hg hcap2
            try simp only [Act.put, List.setIfInBounds_toArray, List.set_cons_zero, List.set_cons_succ]
            have HB := HBN
            clear HBN
            have HG := HGN
            clear HGN
            refine anyT_one (i := 20) (by kernel_rfl) (by simp only [List.getElem?_toArray, List.getElem?_cons_succ, List.getElem?_cons_zero]; exact rfl) (fun K hK => ?_)
            go_simp
            refine hK.out _ _ (fun _ => ((QQ.out.below HB.out).c0)) ?_
            clear hK K
            try simp only [Act.put, List.setIfInBounds_toArray, List.set_cons_zero, List.set_cons_succ]
            refine anyT_one (i := 21) (by kernel_rfl) (by simp only [List.getElem?_toArray, List.getElem?_cons_succ, List.getElem?_cons_zero]; exact rfl) (fun K hK => ?_)
            go_simp
            refine hK.out _ _ (fun _ => ((QQ.out.below HB.out).c0)) ?_
            clear hK K
            try simp only [Act.put, List.setIfInBounds_toArray, List.set_cons_zero, List.set_cons_succ]
            refine anyT_one (i := 22) (by kernel_rfl) (by simp only [List.getElem?_toArray, List.getElem?_cons_succ, List.getElem?_cons_zero]; exact rfl) (fun K hK => ?_)
            have f0 := (QQ.out.below HB.out).row.free 0
            have f1 := (QQ.out.below HB.out).c0
            have fin := hide (QQ.out.relist HG.out (fun x hx => by simp only [List.nil_append, List.mem_append, List.mem_singleton] at hx; rcases hx with (hx | rfl) | hx; exact .inl (List.mem_of_mem_take hx); exact .inr ⟨rfl, rfl⟩; exact .inl (List.mem_of_mem_drop hx)) (l' := plcL nm d.l) (by rw [HT.out.1, List.nil_append, List.map_append, List.map_append, List.map_take, List.map_drop, QQ.out.ls]; rfl))
            go_simp
            refine hK.out _ _ (fun e => absurd rfl e) ?_
            clear hK K f0 f1
            refine anyT_done (by kernel_rfl) ?_
            refine NoPanic.normal ?_
            go_wp2_with fail
            all_goals go_ret
            all_goals exact ⟨k, _, _, _, _, _, rfl, fin.out.1, HO.out _ _ (Own.more fin.out.2.1) fin.out.2.2, HT.out.2, rfl⟩
        · skip
          go_simp
          have HBN := hide (HB.out.alloc HB.out.size (.cells #[.string nm, .slice none 0 0, .int .i64 0] 78))
          have HRN := hide (Row.new wd 78 #[.string nm, .slice none 0 0, .int .i64 0])
          refine hK.out _ _ (fun _ => (QQ.out.below HBN.out).c0) ?_
          clear hK K HB
          try simp only [Act.put, List.setIfInBounds_toArray, List.set_cons_zero, List.set_cons_succ]
          generalize World.alloc wd _ = wa at HBN HRN ⊢
          have HB := HBN
          clear HBN
          have HR := HRN
          clear HRN
          refine anyT_one (i := 1) (by kernel_rfl) (by simp only [List.getElem?_toArray, List.getElem?_cons_succ, List.getElem?_cons_zero]; exact rfl) (fun K hK => ?_)
          go_simp
          have HBN := hide (HB.out.alloc HB.out.size (.cells #[] 78))
          have HGN := hide (Fw.start HB.out)
          have HRN := hide (HR.out.alloc (.cells #[] 78))
          have NE := hide (Nat.ne_of_lt HR.out.lt)
          refine hK.out _ _ (fun _ => (QQ.out.below HBN.out).c0) ?_
          clear hK K HB HR
          try simp only [Act.put, List.setIfInBounds_toArray, List.set_cons_zero, List.set_cons_succ]
          generalize World.alloc wa _ = wb at HBN HGN HRN ⊢
          have HB := HBN
          clear HBN
          have HG := HGN
          clear HGN
          have HR := HRN
          clear HRN
          refine anyT_one (i := 8) (by kernel_rfl) (by simp only [List.getElem?_toArray, List.getElem?_cons_succ, List.getElem?_cons_zero]; exact rfl) (fun K hK => ?_)
          refine step_append_fw (by rfl) (.tmp 47) (.tmp 53) (by rfl) (by rfl) HG.out _ k _ (R.take k) (by rfl) (by rw [List.length_take, HLEN.out]; omega) HNIL.out ((lies3_own (QQ.out.below HB.out).own).1.take k) k (by omega) (by omega) (fun g8 cap8 wc hG hg hcap2 => ?_)
          have HBN := hide hG.low
          have HGN := hide hG
          have HRN := hide (HR.out.grown hg (fun e => NE.out (Option.some.inj e)))
          refine hK.out _ _ (fun _ => (QQ.out.below HBN.out).c0) ?_
          clear hK K HB HG hG hg hcap2 HR NE
          try simp only [Act.put, List.setIfInBounds_toArray, List.set_cons_zero, List.set_cons_succ]
          have HB := HBN
          clear HBN
          have HG := HGN
          clear HGN
          have HR := HRN
          clear HRN
          refine anyT_one (i := 12) (by kernel_rfl) (by simp only [List.getElem?_toArray, List.getElem?_cons_succ, List.getElem?_cons_zero]; exact rfl) (fun K hK => ?_)
          refine step_append_fw (by rfl) (.tmp 54) (.tmp 57) (by rfl) (by rfl) HG.out _ 1 _ [(⟨nm, [], 0⟩, (none, 0))] (by rfl) rfl (fun e => by cases e) (file_row HR.out) (k + 1) rfl (by omega) (fun g12 cap12 wd hG hg hcap2 => ?_)
          have HBN := hide hG.low
          have HGN := hide hG
          refine hK.out _ _ (fun _ => (QQ.out.below HBN.out).c0) ?_
          clear hK K HB HG hG hg hcap2 HR
          try simp only [Act.put, List.setIfInBounds_toArray, List.set_cons_zero, List.set_cons_succ]
          have HB := HBN
          clear HBN
          have HG := HGN
          clear HGN
          refine anyT_one (i := 19) (by kernel_rfl) (by simp only [List.getElem?_toArray, List.getElem?_cons_succ, List.getElem?_cons_zero]; exact rfl) (fun K hK => ?_)
          refine step_append_fw (by rfl) (.tmp 58) (.tmp 64) (by rfl) (by rfl) HG.out (part3 A c k) (d.l.length - k) _ (R.drop k) (by rfl) (by rw [List.length_drop, HLEN.out]) (part3_none HNIL.out) ((lies3_own (QQ.out.below HB.out).own).1.rest (by rw [HLEN.out]; exact HCAP.out) k) (d.l.length + 1) (by omega) (by omega) (fun g19 cap19 we hG hg hcap2 => ?_)
          have HBN := hide hG.low
          have HGN := hide hG
          refine hK.out _ _ (fun _ => (QQ.out.below HBN.out).c0) ?_
          clear hK K HB HG hG hg hcap2
          try simp only [Act.put, List.setIfInBounds_toArray, List.set_cons_zero, List.set_cons_succ]
          have HB := HBN
          clear HBN
          have HG := HGN
          clear HGN
          refine anyT_one (i := 20) (by kernel_rfl) (by simp only [List.getElem?_toArray, List.getElem?_cons_succ, List.getElem?_cons_zero]; exact rfl) (fun K hK => ?_)
          go_simp
          refine hK.out _ _ (fun _ => ((QQ.out.below HB.out).c0)) ?_
          clear hK K
          try simp only [Act.put, List.setIfInBounds_toArray, List.set_cons_zero, List.set_cons_succ]
          refine anyT_one (i := 21) (by kernel_rfl) (by simp only [List.getElem?_toArray, List.getElem?_cons_succ, List.getElem?_cons_zero]; exact rfl) (fun K hK => ?_)
          go_simp
          refine hK.out _ _ (fun _ => ((QQ.out.below HB.out).c0)) ?_
          clear hK K
          try simp only [Act.put, List.setIfInBounds_toArray, List.set_cons_zero, List.set_cons_succ]
          refine anyT_one (i := 22) (by kernel_rfl) (by simp only [List.getElem?_toArray, List.getElem?_cons_succ, List.getElem?_cons_zero]; exact rfl) (fun K hK => ?_)
          have f0 := (QQ.out.below HB.out).row.free 0
          have f1 := (QQ.out.below HB.out).c0
          have fin := hide (QQ.out.relist HG.out (fun x hx => by simp only [List.nil_append, List.mem_append, List.mem_singleton] at hx; rcases hx with (hx | rfl) | hx; exact .inl (List.mem_of_mem_take hx); exact .inr ⟨rfl, rfl⟩; exact .inl (List.mem_of_mem_drop hx)) (l' := plcL nm d.l) (by rw [HT.out.1, List.nil_append, List.map_append, List.map_append, List.map_take, List.map_drop, QQ.out.ls]; rfl))
          go_simp
          refine hK.out _ _ (fun e => absurd rfl e) ?_
          clear hK K f0 f1
          refine anyT_done (by kernel_rfl) ?_
          refine NoPanic.normal ?_
          go_wp2_with fail
          all_goals go_ret
          all_goals exact ⟨k, _, _, _, _, _, rfl, fin.out.1, HO.out _ _ (Own.more fin.out.2.1) fin.out.2.2, HT.out.2, rfl⟩
end
end Go.Proofs.Ytllgjbkmemheoaa
