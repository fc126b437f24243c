/- Append of the document's disk: the bytes are appended. Conditions: the slice has room, what is appended lies apart. -/
import Derived.Test.YtllgjbkmemheoaaRefAB
namespace Go.Proofs.Ytllgjbkmemheoaa
open Go.RowKit Go.Maps
section
variable {S : Nat → Prop} {w : World} {g : Nat} {R : List (Fl × Ps)} {A : Option Addr} {c : Nat} {d : DS} {nm : ByteArray} {B : Option Addr} {n cb : Nat} {zs : List Int}
set_option maxRecDepth 100000 in
set_option maxHeartbeats 4000000 in
theorem rapp_do (h : Rp S w g R A c d) (hok : DOk d) (hln : d.l.length ≤ 1000000) (hnb : n ≤ 1000000) (hm : zs.length = n) (hcB : B = none → cb = 0) (hB : Lies w B zs) (hout : Out S B zs) (hz : Octets zs) (ho : d.off = false) (hn : nameB nm = true) (hf : total d.l + n ≤ d.q) (h0 : d.left ≠ 0) :
    Calls Try.prog 33 #[.pointer (some ⟨g, 0, none⟩), .string nm, .slice B n cb] w (Chr S w g 0 { d.spent with l := putF ⟨nm, datO (find nm d.l) ++ zs, kepO (find nm d.l)⟩ d.l }) := by
  obtain ⟨i0, hi, hz0, hz1, hz2⟩ := info_parts Try.info5
  have HI := hide (And.intro hi (And.intro hz0 (And.intro hz1 hz2)))
  have c3 : w.cell? ⟨g, 3, none⟩ = some (.bool false) := by rw [← ho]; exact h.row.cell 3
  have c1 : w.cell? ⟨g, 1, none⟩ = some (.int .i64 d.q) := h.row.cell 1
  have hs := (name_size hn).2
  have hN := hide (hn ▸ rname_any nm w (by omega))
  have HT := hide (fun w' (hb : Below w.heap.size w w') => rtotal_any (h.below hb) hok hln)
  have ht : (total d.l : Int) ≤ 1048576 := by have := hok.tot; have := hok.q; omega
  have hw1 : IntKind.i64.wrap ((total d.l : Int) + (n : Int)) = (total d.l : Int) + n := by rw [IntKind.wrap_i64]; omega
  have hle : ¬ d.q < (total d.l : Int) + n := by omega
  have hsp : d.spends = true := by unfold DS.spends; simpa using h0
  have HP := hide (fun w' (hb : Below w.heap.size w w') => hsp ▸ power_any (h.below hb) hok)
  have HPL := hide (fun w2 (h2 : Rp S w2 g R A c d.spent) => place_any h2 (by rw [spent_l]; exact hok.up) nm (by rw [spent_l]; exact hln))
  have H := hide (show ∀ w1 w2 w3 k f S3 R3 A3 c3, Below w.heap.size w w1 → w1.grownBy w2 (some g) → Rp S3 w3 g R3 A3 c3 { d.spent with l := plcL nm d.spent.l } → Own S w2 S3 w3 → (plcL nm d.spent.l)[k]? = some f → f.nm = nm →
      ∃ b off nl n0 s, Apq S w { d.spent with l := putF ⟨nm, datO (find nm d.l) ++ zs, kepO (find nm d.l)⟩ d.l } w3 g B zs k b off nl c3 n0 s f from by
    intro w1 w2 w3 k f S3 R3 A3 c3 hb hG h3 hO hk hfn
    rw [spent_l] at h3 hk
    have hO3 : Own S w S3 w3 := Own.trans ⟨(Turn.of_below hb).trans (Own.grown h.sg hG).turn (fun k hk => .inl hk), fun _ hk => .inl hk⟩ hO
    obtain ⟨b, off, s, rfl, hq⟩ := Rp.apq hok h3 hO3 hk hfn hn hz (by omega) (hB.turn hO3.turn hout)
    exact ⟨b, off, _, _, s, hq⟩)
  have HCB := hide hcB
  clear h hok ho hn hsp h0 hB hout hz hi hz0 hz1 hz2 hcB
  subst hm
  go_enter Try.func33, Try.ntmps33
  go_upto_region 5 with (go_at_call 46; (with_reducible refine hN.out.mono ?_); rintro e w' ⟨rfl, rfl⟩)
  go_quiet ((go_at_call 42; exact quiet_l (HT.out _ (below_drewN _ _))))
  go_upto_region 10 with (first
    | (go_at_call 47; (with_reducible refine (HP.out _ (below_drewN _ _)).mono ?_); rintro e w1 ⟨rfl, hR, hG⟩)
    | (go_at_call 48; (with_reducible refine (HPL.out _ hR).mono ?_); rintro e w3 ⟨k, f, S3, R3, A3, c3', rfl, hR3, ⟨hO3, _⟩, hk3, hf3⟩))
  obtain ⟨b, off, nl, n0, s, hq⟩ := H.out _ _ _ _ _ _ _ _ _ (below_drewN _ _) hG hR3 hO3 hk3 hf3
  have QQ := hide hq.drew
  have hknl := hq.hk
  clear hq hR3 hO3 hk3 hf3 hR hG H HPL HP HT hN c3 c1 ht hw1 hle hs hf
  refine wp_region_noPanic ?_
  refine wp_region_T 19 (fun w' => w'.cell? ⟨g, 0, none⟩ = some (.slice (some ⟨b, off, none⟩) nl c3') ∧ w'.cell? ⟨b, off + k * 3 + 1, none⟩ = some (.slice s.A n0 s.2)) (by kernel_rfl) ?_
  generalize World.drew _ = wd at QQ ⊢
  refine anyT_take (i := 0) (v := ?ov0) (by simp only [List.getElem?_toArray, List.getElem?_cons_zero]; exact rfl) (by kernel_rfl) (by kernel_rfl) (fun _ _ _ h => h) (by kernel_rfl) (by kernel_rfl) (Or.inl ⟨by rfl, ?oy0⟩) (by with_reducible exact (QQ.out.two (Below.refl _ _))) ?or0
  case oy0 => (intro w hSw; (try dsimp only at hSw); go_simp; try with_reducible rfl)
  try simp only [Act.put, List.setIfInBounds_toArray, List.set_cons_zero, List.set_cons_succ]
  refine anyT_take (i := 1) (v := ?ov1) (by simp only [List.getElem?_toArray, List.getElem?_cons_succ, List.getElem?_cons_zero]; exact rfl) (by kernel_rfl) (by kernel_rfl) (fun _ _ _ h => h) (by kernel_rfl) (by kernel_rfl) (Or.inl ⟨by rfl, ?oy1⟩) (by with_reducible exact (QQ.out.two (Below.refl _ _))) ?or1
  case oy1 => (intro w hSw; (try dsimp only at hSw); go_simp; try with_reducible rfl)
  try simp only [Act.put, List.setIfInBounds_toArray, List.set_cons_zero, List.set_cons_succ]
  refine anyT_take (i := 2) (v := ?ov2) (by simp only [List.getElem?_toArray, List.getElem?_cons_succ, List.getElem?_cons_zero]; exact rfl) (by kernel_rfl) (by kernel_rfl) (fun _ _ _ h => h) (by kernel_rfl) (by kernel_rfl) (Or.inl ⟨by rfl, ?oy2⟩) (by with_reducible exact (QQ.out.two (Below.refl _ _))) ?or2
  case oy2 => (intro w hSw; (try dsimp only at hSw); go_simp; try with_reducible rfl)
  try simp only [Act.put, List.setIfInBounds_toArray, List.set_cons_zero, List.set_cons_succ]
  refine anyT_take (i := 3) (v := ?ov3) (by simp only [List.getElem?_toArray, List.getElem?_cons_succ, List.getElem?_cons_zero]; exact rfl) (by kernel_rfl) (by kernel_rfl) (fun _ _ _ h => h) (by kernel_rfl) (by kernel_rfl) (Or.inl ⟨by rfl, ?oy3⟩) (by with_reducible exact (QQ.out.two (Below.refl _ _))) ?or3
  case oy3 => (intro w hSw; (try dsimp only at hSw); go_simp; try with_reducible rfl)
  try simp only [Act.put, List.setIfInBounds_toArray, List.set_cons_zero, List.set_cons_succ]
  refine anyT_take (i := 4) (v := ?ov4) (by simp only [List.getElem?_toArray, List.getElem?_cons_succ, List.getElem?_cons_zero]; exact rfl) (by kernel_rfl) (by kernel_rfl) (fun _ _ _ h => h) (by kernel_rfl) (by kernel_rfl) (Or.inl ⟨by rfl, ?oy4⟩) (by with_reducible exact (QQ.out.two (Below.refl _ _))) ?or4
  case oy4 => (intro w hSw; (try dsimp only at hSw); go_simp; try with_reducible rfl)
  try simp only [Act.put, List.setIfInBounds_toArray, List.set_cons_zero, List.set_cons_succ]
  refine anyT_take (i := 6) (v := ?ov6) (by simp only [List.getElem?_toArray, List.getElem?_cons_succ, List.getElem?_cons_zero]; exact rfl) (by kernel_rfl) (by kernel_rfl) (fun _ _ _ h => h) (by kernel_rfl) (by kernel_rfl) (Or.inl ⟨by rfl, ?oy6⟩) (by with_reducible exact (QQ.out.two (Below.refl _ _))) ?or6
  case oy6 => (intro w hSw; (try dsimp only at hSw); go_simp; try with_reducible rfl)
  try simp only [Act.put, List.setIfInBounds_toArray, List.set_cons_zero, List.set_cons_succ]
  refine anyT_take (i := 7) (v := ?ov7) (by simp only [List.getElem?_toArray, List.getElem?_cons_succ, List.getElem?_cons_zero]; exact rfl) (by kernel_rfl) (by kernel_rfl) (fun _ _ _ h => h) (by kernel_rfl) (by kernel_rfl) (Or.inl ⟨by rfl, ?oy7⟩) (by with_reducible exact (QQ.out.two (Below.refl _ _))) ?or7
  case oy7 => (intro w hSw; (try dsimp only at hSw); go_simp; try with_reducible rfl)
  try simp only [Act.put, List.setIfInBounds_toArray, List.set_cons_zero, List.set_cons_succ]
  refine anyT_take (i := 8) (v := ?ov8) (by simp only [List.getElem?_toArray, List.getElem?_cons_succ, List.getElem?_cons_zero]; exact rfl) (by kernel_rfl) (by kernel_rfl) (fun _ _ _ h => h) (by kernel_rfl) (by kernel_rfl) (Or.inl ⟨by rfl, ?oy8⟩) (by with_reducible exact (QQ.out.two (Below.refl _ _))) ?or8
  case oy8 => (intro w hSw; (try dsimp only at hSw); go_simp; try with_reducible rfl)
  try simp only [Act.put, List.setIfInBounds_toArray, List.set_cons_zero, List.set_cons_succ]
  refine anyT_take (i := 9) (v := ?ov9) (by simp only [List.getElem?_toArray, List.getElem?_cons_succ, List.getElem?_cons_zero]; exact rfl) (by kernel_rfl) (by kernel_rfl) (fun _ _ _ h => h) (by kernel_rfl) (by kernel_rfl) (Or.inl ⟨by rfl, ?oy9⟩) (by with_reducible exact (QQ.out.two (Below.refl _ _))) ?or9
  case oy9 => (intro w hSw; (try dsimp only at hSw); go_simp; try with_reducible rfl)
  try simp only [Act.put, List.setIfInBounds_toArray, List.set_cons_zero, List.set_cons_succ]
  refine anyT_take (i := 10) (v := ?ov10) (by simp only [List.getElem?_toArray, List.getElem?_cons_succ, List.getElem?_cons_zero]; exact rfl) (by kernel_rfl) (by kernel_rfl) (fun _ _ _ h => h) (by kernel_rfl) (by kernel_rfl) (Or.inl ⟨by rfl, ?oy10⟩) (by with_reducible exact (QQ.out.two (Below.refl _ _))) ?or10
  case oy10 => (intro w hSw; (try dsimp only at hSw); go_simp; try with_reducible rfl)
  try simp only [Act.put, List.setIfInBounds_toArray, List.set_cons_zero, List.set_cons_succ]
  refine anyT_take (i := 11) (v := ?ov11) (by simp only [List.getElem?_toArray, List.getElem?_cons_succ, List.getElem?_cons_zero]; exact rfl) (by kernel_rfl) (by kernel_rfl) (fun _ _ _ h => h) (by kernel_rfl) (by kernel_rfl) (Or.inl ⟨by rfl, ?oy11⟩) (by with_reducible exact (QQ.out.two (Below.refl _ _))) ?or11
  case oy11 => (intro w hSw; (try dsimp only at hSw); go_simp; try with_reducible rfl)
  try simp only [Act.put, List.setIfInBounds_toArray, List.set_cons_zero, List.set_cons_succ]
  refine anyT_take (i := 12) (v := ?ov12) (by simp only [List.getElem?_toArray, List.getElem?_cons_succ, List.getElem?_cons_zero]; exact rfl) (by kernel_rfl) (by kernel_rfl) (fun _ _ _ h => h) (by kernel_rfl) (by kernel_rfl) (Or.inl ⟨by rfl, ?oy12⟩) (by with_reducible exact (QQ.out.two (Below.refl _ _))) ?or12
  case oy12 => (intro w hSw; (try dsimp only at hSw); go_simp; try with_reducible rfl)
  try simp only [Act.put, List.setIfInBounds_toArray, List.set_cons_zero, List.set_cons_succ]
  refine anyT_take (i := 13) (v := ?ov13) (by simp only [List.getElem?_toArray, List.getElem?_cons_succ, List.getElem?_cons_zero]; exact rfl) (by kernel_rfl) (by kernel_rfl) (fun _ _ _ h => h) (by kernel_rfl) (by kernel_rfl) (Or.inl ⟨by rfl, ?oy13⟩) (by with_reducible exact (QQ.out.two (Below.refl _ _))) ?or13
  case oy13 => (intro w hSw; (try dsimp only at hSw); go_simp; try with_reducible rfl)
  try simp only [Act.put, List.setIfInBounds_toArray, List.set_cons_zero, List.set_cons_succ]
  refine anyT_take (i := 15) (v := ?ov15) (by simp only [List.getElem?_toArray, List.getElem?_cons_succ, List.getElem?_cons_zero]; exact rfl) (by kernel_rfl) (by kernel_rfl) (fun _ _ _ h => h) (by kernel_rfl) (by kernel_rfl) (Or.inl ⟨by rfl, ?oy15⟩) (by with_reducible exact (QQ.out.two (Below.refl _ _))) ?or15
  case oy15 => (intro w hSw; (try dsimp only at hSw); go_simp; try with_reducible rfl)
  try simp only [Act.put, List.setIfInBounds_toArray, List.set_cons_zero, List.set_cons_succ]
  have HB := hide (Below.refl wd.heap.size wd)
  refine anyT_one (i := 5) (by kernel_rfl) (by simp only [List.getElem?_toArray, List.getElem?_cons_succ, List.getElem?_cons_zero]; exact rfl) (fun K hK => ?_)
  go_simp
  have HBN := hide (HB.out.alloc HB.out.size (.cells #[] 5))
  have HG := hide (show (wd.alloc (.cells #[] 5)).ownsRow wd.heap.size 5 1 (.slice (some ⟨wd.heap.size, 0, none⟩) 0 0) 0 (cellsOf []) from wd.ownsRow_made #[] 0 (Nat.le_refl _) (by unfold maxLen; omega) rfl)
  refine hK.out _ _ (fun _ => QQ.out.two HBN.out) ?_
  clear hK K HB
  try simp only [Act.put, List.setIfInBounds_toArray, List.set_cons_zero, List.set_cons_succ]
  generalize World.alloc wd _ = wa at HBN HG ⊢
  have HB := HBN
  clear HBN
  refine anyT_one (i := 14) (by kernel_rfl) (by simp only [List.getElem?_toArray, List.getElem?_cons_succ, List.getElem?_cons_zero]; exact rfl) (fun K hK => ?_)
  refine step_append_bytes (by rfl) (.tmp 40) (.tmp 48) 27 (by rfl) wd.heap.size 5 i0 _ Try.underlying27 HI.out.1 HI.out.2.1 HI.out.2.2.1 HI.out.2.2.2 rfl _ 0 [] (by rfl) HG.out s.A n0 s.2 f.dt (by rfl) QQ.out.len QQ.out.nil (QQ.out.old.below HB.out) (by have := QQ.out.le; omega) HB.out.size (fun v1 w14 hO hb => ?_)
  have HBN := hide (HB.out.trans hb)
  have HGN := hide hO
  refine hK.out _ _ (fun _ => QQ.out.two HBN.out) ?_
  clear hK K HB HG hO hb
  try simp only [Act.put, List.setIfInBounds_toArray, List.set_cons_zero, List.set_cons_succ]
  have HB := HBN
  clear HBN
  have HG := HGN
  clear HGN
  refine anyT_one (i := 16) (by kernel_rfl) (by simp only [List.getElem?_toArray, List.getElem?_cons_succ, List.getElem?_cons_zero]; exact rfl) (fun K hK => ?_)
  refine step_append_bytes (by rfl) (.tmp 49) (.tmp 50) 27 (by rfl) wd.heap.size 5 i0 _ Try.underlying27 HI.out.1 HI.out.2.1 HI.out.2.2.1 HI.out.2.2.2 rfl _ _ _ (by rfl) HG.out B zs.length cb zs (by rfl) rfl HCB.out (QQ.out.add.below HB.out) (by have := QQ.out.le; omega) HB.out.size (fun v2 w16 hO hb => ?_)
  have HBN := hide (HB.out.trans hb)
  rw [Nat.zero_add, List.nil_append] at hO
  have FIN := hide (QQ.out.fin _ _ HBN.out hO)
  obtain ⟨s', rfl, _⟩ := own_ps hO
  refine hK.out _ _ (fun _ => QQ.out.two HBN.out) ?_
  clear hK K HB HG hO hb
  try simp only [Act.put, List.setIfInBounds_toArray, List.set_cons_zero, List.set_cons_succ]
  have HB := HBN
  clear HBN
  refine anyT_one (i := 17) (by kernel_rfl) (by simp only [List.getElem?_toArray, List.getElem?_cons_succ, List.getElem?_cons_zero]; exact rfl) (fun K hK => ?_)
  go_simp
  refine hK.out _ _ (fun _ => QQ.out.two HB.out) ?_
  clear hK K
  try simp only [Act.put, List.setIfInBounds_toArray, List.set_cons_zero, List.set_cons_succ]
  refine anyT_one (i := 18) (by kernel_rfl) (by simp only [List.getElem?_toArray, List.getElem?_cons_succ, List.getElem?_cons_zero]; exact rfl) (fun K hK => ?_)
  go_simp
  refine hK.out _ _ (fun _ => QQ.out.two HB.out) ?_
  clear hK K
  try simp only [Act.put, List.setIfInBounds_toArray, List.set_cons_zero, List.set_cons_succ]
  refine anyT_one (i := 19) (by kernel_rfl) (by simp only [List.getElem?_toArray, List.getElem?_cons_succ, List.getElem?_cons_zero]; exact rfl) (fun K hK => ?_)
  have f0 : World.frozen? _ ⟨b, off + k * 3 + 1, none⟩ = false := frozen_below QQ.out.f1 HB.out QQ.out.hb
  have f1 := (QQ.out.two HB.out).2
  go_simp
  refine hK.out _ _ (fun e => absurd rfl e) ?_
  clear hK K f0 f1
  refine anyT_done (by kernel_rfl) ?_
  refine NoPanic.normal ?_
  go_wp2_with fail
  all_goals go_ret
  all_goals exact FIN.out
end
end Go.Proofs.Ytllgjbkmemheoaa
/- Append of the document's disk, said at once; a file's bytes, and what is kept of them, turn. Conditions: the slice has room, what is appended lies apart. -/
namespace Go.Proofs.Ytllgjbkmemheoaa
open Go.RowKit Go.Maps
section
variable {S : Nat → Prop} {w w' : World} {g : Nat} {R : List (Fl × Ps)} {A : Option Addr} {c : Nat} {d : DS} {nm : ByteArray} {B : Option Addr} {n cb : Nat} {zs : List Int}
theorem rapp_any (h : Rp S w g R A c d) (hok : DOk d) (hln : d.l.length ≤ 1000000) (hnb : n ≤ 1000000) (hs : nm.size ≤ 140737488351232) (hm : zs.length = n) (hcB : B = none → cb = 0) (hB : Lies w B zs) (hout : Out S B zs) (hz : Octets zs) :
    Calls Try.prog 33 #[.pointer (some ⟨g, 0, none⟩), .string nm, .slice B n cb] w (Chr S w g (appE d nm zs) (appS d nm zs)) := by
  unfold appE appS
  cases ho : d.off with
  | true => rw [if_pos rfl, if_pos rfl]; exact rapp_off h hok ho
  | false =>
    rw [if_neg Bool.false_ne_true, if_neg Bool.false_ne_true]
    cases hn : nameB nm with
    | false => rw [if_pos rfl, if_pos rfl]; exact rapp_path h hok ho hs hn
    | true =>
      rw [if_neg (show ¬ true = false by decide), if_neg (show ¬ true = false by decide), hm]
      by_cases hf : d.q < (total d.l : Int) + n
      · rw [if_pos hf, if_pos hf]; exact rapp_full h hok hln hnb ho hn hf
      · rw [if_neg hf, if_neg hf]
        by_cases h0 : d.left = 0
        · rw [if_pos h0, if_pos h0]; exact rapp_down h hok hln hnb ho hn (by omega) h0
        · rw [if_neg h0, if_neg h0]; exact rapp_do h hok hln hnb hm hcB hB hout hz ho hn (by omega) h0
/-- A file's bytes anew. -/
theorem Rp.bytes {b off k t : Nat} {f : Fl} {s : Ps} {v : Value} (h : Rp S w g R (some ⟨b, off, none⟩) c d) (hs : R[k]? = some (f, s)) (hb : Below w.heap.size w w') (hl : zs.length = t) (hv : w'.ownsRow w.heap.size 5 1 v t (cellsOf zs)) :
    ∃ s' : Ps, v = .slice s'.A t s'.2 ∧ ∃ S2, Rp S2 (w'.setCell ⟨b, off + k * 3 + 1, none⟩ v) g (R.set k (⟨f.nm, zs, f.kp⟩, s')) (some ⟨b, off, none⟩) c { d with l := d.l.set k ⟨f.nm, zs, f.kp⟩ } ∧ Own S w S2 (w'.setCell ⟨b, off + k * 3 + 1, none⟩ v) := by
  subst hl
  obtain ⟨s', rfl, ho', hs'⟩ := own_ps hv
  obtain ⟨⟨h2, hT⟩, _⟩ := h.store hb (i := 1) (u := .slice s'.A zs.length s'.2) (y := (⟨f.nm, zs, f.kp⟩, s')) rfl hs (by omega) rfl ho' (fun r hr => .inr (hs' r hr))
  exact ⟨s', rfl, _, h2, Own.more hT⟩
/-- What is kept of a file anew. -/
theorem Rp.keeps {b off k : Nat} {f : Fl} {s : Ps} (h : Rp S w g R (some ⟨b, off, none⟩) c d) (hs : R[k]? = some (f, s)) (q : Nat) :
    ∃ S2, Rp S2 (w.setCell ⟨b, off + k * 3 + 2, none⟩ (.int .i64 q)) g (R.set k (⟨f.nm, f.dt, q⟩, s)) (some ⟨b, off, none⟩) c { d with l := d.l.set k ⟨f.nm, f.dt, q⟩ } ∧ Own S w S2 (w.setCell ⟨b, off + k * 3 + 2, none⟩ (.int .i64 q)) := by
  obtain ⟨⟨h2, hT⟩, _⟩ := h.store (Below.refl _ _) (i := 2) (u := .int .i64 q) (y := (⟨f.nm, f.dt, q⟩, s)) rfl hs (by omega) rfl (h.dat (f, s) (List.mem_of_getElem? hs)) (fun r hr => .inl (h.sd (f, s) (List.mem_of_getElem? hs) r hr))
  exact ⟨_, h2, Own.more hT⟩
/-- What a region that lays a file's bytes anew begins with. -/
structure Bpq (w : World) (g k b off nl c : Nat) (s : Ps) (f : Fl) : Prop where
  c0 : w.cell? ⟨g, 0, none⟩ = some (.slice (some ⟨b, off, none⟩) nl c)
  c1 : w.cell? ⟨b, off + k * 3 + 1, none⟩ = some (.slice s.A f.dt.length s.2)
  c2 : w.cell? ⟨b, off + k * 3 + 2, none⟩ = some (.int .i64 f.kp)
  f1 : w.frozen? ⟨b, off + k * 3 + 1, none⟩ = false
  f2 : w.frozen? ⟨b, off + k * 3 + 2, none⟩ = false
  hk : k < nl
  hb : b < w.heap.size
  hg : g < w.heap.size
  old : Lies w s.A f.dt
  nil : s.A = none → s.2 = 0
  cap : f.dt.length ≤ s.2
theorem own1_cap {e : TypeId} {n : Nat} {vs : List Value} (h : w.ownsRow 0 e 1 (.slice A n c) n vs) : n ≤ c ∧ (A = none → c = 0) := by
  rcases h.2 with ⟨hv, h0⟩ | ⟨g, cap, cur, hv, _, _, hc, _⟩
  · injection hv with h1 _ h3; exact ⟨by omega, fun _ => h3⟩
  · injection hv with h1 _ h3; exact ⟨by omega, fun e => by rw [e] at h1; cases h1⟩
theorem Rp.bpq {b off k : Nat} {f : Fl} {s : Ps} (h : Rp S w g R (some ⟨b, off, none⟩) c d) (hs : R[k]? = some (f, s)) : Bpq w g k b off d.l.length c s f := by
  obtain ⟨q0, q1, q2, z1, z2⟩ := h.look hs
  have hd := h.dat (f, s) (List.mem_of_getElem? hs)
  have hk : k < d.l.length := by
    have : d.l[k]? = some f := by rw [← h.ls, List.getElem?_map, hs]; rfl
    exact (List.getElem?_eq_some_iff.1 this).1
  exact ⟨q0, q1, q2, z1, z2, hk, h.lt _ (h.sA _ rfl), h.row.lt, Lies.of_own hd, (own1_cap hd).2, (own1_cap hd).1⟩
section
variable {k b off nl : Nat} {s : Ps} {f : Fl}
theorem Bpq.two (h : Bpq w g k b off nl c s f) (hb : Below w.heap.size w w') : w'.cell? ⟨g, 0, none⟩ = some (.slice (some ⟨b, off, none⟩) nl c) ∧ w'.cell? ⟨b, off + k * 3 + 1, none⟩ = some (.slice s.A f.dt.length s.2) :=
  ⟨(hb.cell (p := ⟨g, 0, none⟩) h.hg).trans h.c0, (hb.cell (p := ⟨b, off + k * 3 + 1, none⟩) h.hb).trans h.c1⟩
theorem Bpq.pair (h : Bpq w g k b off nl c s f) (hb : Below w.heap.size w w') : w'.cell? ⟨b, off + k * 3 + 1, none⟩ = some (.slice s.A f.dt.length s.2) ∧ w'.cell? ⟨b, off + k * 3 + 2, none⟩ = some (.int .i64 f.kp) :=
  ⟨(hb.cell (p := ⟨b, off + k * 3 + 1, none⟩) h.hb).trans h.c1, (hb.cell (p := ⟨b, off + k * 3 + 2, none⟩) h.hb).trans h.c2⟩
theorem Bpq.drew (h : Bpq w g k b off nl c s f) : Bpq w.drew g k b off nl c s f := ⟨h.c0, h.c1, h.c2, h.f1, h.f2, h.hk, h.hb, h.hg, h.old.below (below_drew w), h.nil, h.cap⟩
end
theorem Rp.drew (h : Rp S w g R A c d) : Rp S w.drew g R A c d := h.below (below_drew w)
end
end Go.Proofs.Ytllgjbkmemheoaa
