/- The law's call on both disks: the answers are the same, and so are the disks behind it. Conditions: the call's data and picks are short. -/
import Derived.Test.YtllgjbkmemheoaaBoth
import Derived.Deep.DeepCutAuto
import Derived.Deep.RegionHeld3
namespace Go.Proofs.Ytllgjbkmemheoaa
open Go.RowKit Go.Maps
section
variable {W w : World} {p r : Nat} {d : DS} {x : As}
set_option maxRecDepth 100000 in
set_option maxHeartbeats 16000000 in
theorem call_any (h : Lb W (fun k => k < W.heap.size) w p d r d) (hok : AsOk W x) (hdn : x.d.n ≤ 300) (hpn : x.p.n ≤ 30) (hln : d.l.length ≤ 1000000) :
    Calls Try.prog 19 #[.pointer (some ⟨p, 0, none⟩), .pointer (some ⟨r, 0, none⟩), .agg #[.int .i64 x.k, .int .i64 x.n, .string x.nm, .string x.tn, .slice x.d.A x.d.n x.d.c, .slice x.p.A x.p.n x.p.c]] w fun e w' => e = .returned (.bool true) ∧ Lb W (fun k => k < W.heap.size) w' p (askS d x) r (askS d x) := by
  have CB := hide (show Cb W (w.alloc (.cells #[.int .i64 x.k, .int .i64 x.n, .string x.nm, .string x.tn, .slice x.d.A x.d.n x.d.c, .slice x.p.A x.p.n x.p.c] 41)) p d r d w.heap.size x from h.boxed x)
  have HOK := hide hok
  have hnm := hide hok.nm
  have htn := hide hok.tn
  have hxn := hide hok.n
  have hds := hide hok.d
  have hps := hide hok.p
  clear h hok
  go_enter Try.func19, Try.ntmps19
  go_upto_region 1 with fail
  generalize World.alloc w _ = w1 at CB ⊢
  generalize w.heap.size = gb at CB ⊢
  have r0 : w1.cell? ⟨gb, 0, none⟩ = some (.int .i64 x.k) := CB.out.box.cell 0
  by_cases k1 : x.k = 1
  · have HS := hide (show askS d x = appS d x.nm x.d.zs from by unfold askS; rw [if_pos k1])
    rw [k1] at r0
    go_upto_region 3 with (fail)
    clear r0
    have QQ := hide CB.out.drew
    clear CB
    go_region_held3 (fun w' => w'.cell? ⟨gb, 2, none⟩ = some (.string x.nm) ∧ w'.cell? ⟨gb, 4, none⟩ = some (.slice x.d.A x.d.n x.d.c)) ((with_reducible exact QQ.out.c24))
      (first
        | (go_at_call 11; (with_reducible refine (QQ.out.app1 hds.out hnm.out hln).mono ?_); rintro e w' ⟨rfl, h⟩; (have QN := hide h); clear QQ h; (have QQ := QN); clear QN)
        | (go_at_call 33; (with_reducible refine (QQ.out.app2 hds.out hnm.out hln hdn).mono ?_); rintro e w' ⟨rfl, h⟩; (have QN := hide h); clear QQ h; (have QQ := QN); clear QN))
    go_wp2_with fail
    go_ret
    rw [HS.out]
    exact ⟨ret_bool (by simp), QQ.out.drop⟩
  by_cases k2 : x.k = 2
  · have HS := hide (show askS d x = synS d x.nm from by unfold askS; rw [if_neg (show ¬ x.k = 1 by omega)]; rw [if_pos k2])
    rw [k2] at r0
    go_upto_region 5 with (fail)
    clear r0
    have QQ := hide CB.out.drew
    clear CB
    go_region_held3 (fun w' => w'.cell? ⟨gb, 2, none⟩ = some (.string x.nm)) ((with_reducible exact QQ.out.c2))
      (first
        | (go_at_call 12; (with_reducible refine (QQ.out.syn1 hnm.out).mono ?_); rintro e w' ⟨rfl, h⟩; (have QN := hide h); clear QQ h; (have QQ := QN); clear QN)
        | (go_at_call 34; (with_reducible refine (QQ.out.syn2 hln).mono ?_); rintro e w' ⟨rfl, h⟩; (have QN := hide h); clear QQ h; (have QQ := QN); clear QN))
    go_wp2_with fail
    go_ret
    rw [HS.out]
    exact ⟨ret_bool (by simp), QQ.out.drop⟩
  by_cases k3 : x.k = 3
  · have HS := hide (show askS d x = cutS d x.nm x.n from by unfold askS; rw [if_neg (show ¬ x.k = 1 by omega)]; rw [if_neg (show ¬ x.k = 2 by omega)]; rw [if_pos k3])
    rw [k3] at r0
    go_upto_region 7 with (fail)
    clear r0
    have QQ := hide CB.out.drew
    clear CB
    go_region_held3 (fun w' => w'.cell? ⟨gb, 2, none⟩ = some (.string x.nm) ∧ w'.cell? ⟨gb, 1, none⟩ = some (.int .i64 x.n)) ((with_reducible exact QQ.out.c21))
      (first
        | (go_at_call 35; (with_reducible refine (QQ.out.cut1 hnm.out hxn.out).mono ?_); rintro e w' ⟨rfl, h⟩; (have QN := hide h); clear QQ h; (have QQ := QN); clear QN)
        | (go_at_call 36; (with_reducible refine (QQ.out.cut2 hln _).mono ?_); rintro e w' ⟨rfl, h⟩; (have QN := hide h); clear QQ h; (have QQ := QN); clear QN))
    go_wp2_with fail
    go_ret
    rw [HS.out]
    exact ⟨ret_bool (by simp), QQ.out.drop⟩
  by_cases k4 : x.k = 4
  · have HS := hide (show askS d x = renS d x.nm x.tn from by unfold askS; rw [if_neg (show ¬ x.k = 1 by omega)]; rw [if_neg (show ¬ x.k = 2 by omega)]; rw [if_neg (show ¬ x.k = 3 by omega)]; rw [if_pos k4])
    rw [k4] at r0
    go_upto_region 9 with (fail)
    clear r0
    have QQ := hide CB.out.drew
    clear CB
    go_region_held3 (fun w' => w'.cell? ⟨gb, 2, none⟩ = some (.string x.nm) ∧ w'.cell? ⟨gb, 3, none⟩ = some (.string x.tn)) ((with_reducible exact QQ.out.c23))
      (first
        | (go_at_call 21; (with_reducible refine (QQ.out.ren1 hnm.out htn.out hln).mono ?_); rintro e w' ⟨rfl, h⟩; (have QN := hide h); clear QQ h; (have QQ := QN); clear QN)
        | (go_at_call 37; (with_reducible refine (QQ.out.ren2 htn.out hln).mono ?_); rintro e w' ⟨rfl, h⟩; (have QN := hide h); clear QQ h; (have QQ := QN); clear QN))
    go_wp2_with fail
    go_ret
    rw [HS.out]
    exact ⟨ret_bool (by simp), QQ.out.drop⟩
  by_cases k5 : x.k = 5
  · have HS := hide (show askS d x = remS d x.nm from by unfold askS; rw [if_neg (show ¬ x.k = 1 by omega)]; rw [if_neg (show ¬ x.k = 2 by omega)]; rw [if_neg (show ¬ x.k = 3 by omega)]; rw [if_neg (show ¬ x.k = 4 by omega)]; rw [if_pos k5])
    rw [k5] at r0
    go_upto_region 11 with (fail)
    clear r0
    have QQ := hide CB.out.drew
    clear CB
    go_region_held3 (fun w' => w'.cell? ⟨gb, 2, none⟩ = some (.string x.nm)) ((with_reducible exact QQ.out.c2))
      (first
        | (go_at_call 22; (with_reducible refine (QQ.out.rem1 hnm.out).mono ?_); rintro e w' ⟨rfl, h⟩; (have QN := hide h); clear QQ h; (have QQ := QN); clear QN)
        | (go_at_call 38; (with_reducible refine (QQ.out.rem2 hln).mono ?_); rintro e w' ⟨rfl, h⟩; (have QN := hide h); clear QQ h; (have QQ := QN); clear QN))
    go_wp2_with fail
    go_ret
    rw [HS.out]
    exact ⟨ret_bool (by simp), QQ.out.drop⟩
  by_cases k6 : x.k = 6
  · have HS := hide (show askS d x = armS d x.n from by unfold askS; rw [if_neg (show ¬ x.k = 1 by omega)]; rw [if_neg (show ¬ x.k = 2 by omega)]; rw [if_neg (show ¬ x.k = 3 by omega)]; rw [if_neg (show ¬ x.k = 4 by omega)]; rw [if_neg (show ¬ x.k = 5 by omega)]; rw [if_pos k6])
    rw [k6] at r0
    have QQ := CB
    clear CB
    have rc := QQ.out.c1
    go_wp2_with (first
      | (go_at_call 15; (with_reducible refine (QQ.out.arm1 hxn.out).mono ?_); rintro e w' ⟨rfl, h⟩; clear rc; have rc := h.c1; (have QN := hide h); clear QQ h; (have QQ := QN); clear QN)
      | (go_at_call 39; (with_reducible refine (QQ.out.arm2 hxn.out).mono ?_); rintro e w' ⟨rfl, h⟩; clear rc; (have QN := hide h); clear QQ h; (have QQ := QN); clear QN))
    go_ret
    rw [HS.out]
    exact ⟨rfl, QQ.out.drop⟩
  by_cases k7 : x.k = 7
  · have HS := hide (show askS d x = craS d x.p.zs from by unfold askS; rw [if_neg (show ¬ x.k = 1 by omega)]; rw [if_neg (show ¬ x.k = 2 by omega)]; rw [if_neg (show ¬ x.k = 3 by omega)]; rw [if_neg (show ¬ x.k = 4 by omega)]; rw [if_neg (show ¬ x.k = 5 by omega)]; rw [if_neg (show ¬ x.k = 6 by omega)]; rw [if_pos k7])
    rw [k7] at r0
    have QQ := CB
    clear CB
    have rc := QQ.out.c5
    go_wp2_with (first
      | (go_at_call 13; (with_reducible refine (QQ.out.cra1 hps.out hpn hln).mono ?_); rintro e w' ⟨rfl, h⟩; clear rc; have rc := h.c5; (have QN := hide h); clear QQ h; (have QQ := QN); clear QN)
      | (go_at_call 40; (with_reducible refine (QQ.out.cra2 hps.out hpn hln).mono ?_); rintro e w' ⟨rfl, h⟩; clear rc; (have QN := hide h); clear QQ h; (have QQ := QN); clear QN))
    go_ret
    rw [HS.out]
    exact ⟨rfl, QQ.out.drop⟩
  have HS := hide (show askS d x = d from by unfold askS; rw [if_neg k1, if_neg k2, if_neg k3, if_neg k4, if_neg k5, if_neg k6, if_neg k7])
  have b1 : (x.k == 1) = false := by simpa using k1
  have b2 : (x.k == 2) = false := by simpa using k2
  have b3 : (x.k == 3) = false := by simpa using k3
  have b4 : (x.k == 4) = false := by simpa using k4
  have b5 : (x.k == 5) = false := by simpa using k5
  have b6 : (x.k == 6) = false := by simpa using k6
  have b7 : (x.k == 7) = false := by simpa using k7
  clear k1 k2 k3 k4 k5 k6 k7
  go_wp2
  go_ret
  rw [HS.out]
  exact ⟨rfl, CB.out.drop⟩
end
end Go.Proofs.Ytllgjbkmemheoaa
/- The law's look at both disks: they have the same files. Conditions: the names have room in a slice. -/
namespace Go.Proofs.Ytllgjbkmemheoaa
open Go.RowKit Go.Maps
/-- Both disks the same, and a slice of the files' names. -/
structure Al (W w : World) (p r : Nat) (d : DS) (N : Option Addr) : Prop where
  l : Lb W (fun k => k < W.heap.size) w p d r d
  strs : Strs w N (nms d.l)
def noF : ByteArray := ⟨#[110, 111, 32, 115, 117, 99, 104, 32, 102, 105, 108, 101]⟩
theorem no_file {d : DS} (h : DOk d) : find noF d.l = none := find_none.2 fun x hx e => by
  have h1 := h.nm x hx
  rw [e] at h1
  have h2 : nameB noF = false := by decide
  rw [h2] at h1; cases h1
section
variable {W w w' : World} {p r : Nat} {d : DS} {N : Option Addr} {nm : ByteArray}
theorem Al.below (h : Al W w p r d N) (hb : Below w.heap.size w w') : Al W w' p r d N := ⟨h.l.below hb, h.strs.below hb⟩
theorem Al.drew (h : Al W w p r d N) : Al W w.drew p r d N := h.below (below_drew w)
theorem Al.rc (h : Al W w p r d N) : w.cell? ⟨r, 1, none⟩ = some (.int .i64 d.q) ∧ w.cell? ⟨r, 3, none⟩ = some (.bool d.off) := by
  obtain ⟨T, R, A, c, _, hR⟩ := h.l.ref
  exact ⟨hR.row.cell 1, hR.row.cell 3⟩
theorem Al.rtot (h : Al W w p r d N) (hln : d.l.length ≤ 1000000) : Calls Try.prog 42 #[.pointer (some ⟨r, 0, none⟩)] w fun e w' => e = .returned (.int .i64 (total d.l)) ∧ w = w' := by
  obtain ⟨T, R, A, c, ho, hR⟩ := h.l.ref
  exact rtotal_any hR ho hln
theorem Al.rread (h : Al W w p r d N) (hln : d.l.length ≤ 1000000) {f : Fl} (hf : find nm d.l = some f) :
    Calls Try.prog 43 #[.pointer (some ⟨r, 0, none⟩), .string nm] w fun e w' => (∃ B cb, e = .returned (.tuple #[.slice B f.dt.length cb, .bool true]) ∧ Lies w B f.dt ∧ (B = none → cb = 0)) ∧ w = w' := by
  obtain ⟨T, R, A, c, ho, hR⟩ := h.l.ref
  exact rread_yes hR ho.up hln hf
theorem Lb.rnames (h : Lb W (fun k => k < W.heap.size) w p d r d) (hln : d.l.length ≤ 1000000) :
    Calls Try.prog 41 #[.pointer (some ⟨r, 0, none⟩)] w fun e w' => ∃ N c, e = .returned (.slice N d.l.length c) ∧ Al W w' p r d N := by
  obtain ⟨T, R, A, c, ho, hR⟩ := h.ref
  exact (rnames_any hR hln).mono fun e w' ⟨N, c', he, hs, hb⟩ => ⟨N, c', he, h.below hb, hs⟩
set_option maxRecDepth 100000 in
set_option maxHeartbeats 16000000 in
theorem alike_any (h : Lb W (fun k => k < W.heap.size) w p d r d) (hln : d.l.length ≤ 1000000) :
    Calls Try.prog 20 #[.pointer (some ⟨p, 0, none⟩), .pointer (some ⟨r, 0, none⟩)] w fun e w' => e = .returned (.bool true) ∧ Lb W (fun k => k < W.heap.size) w' p d r d := by
  have HN := hide (h.rnames hln)
  have hok := h.one.q.ok
  have hlm : d.l.length ≤ 4611686018427387904 := by omega
  have hsub : IntKind.i64.wrap (d.q - (total d.l : Int)) = d.q - (total d.l : Int) := by
    have := hok.tot; have := hok.q
    rw [IntKind.wrap_i64]; omega
  have HNB := hide (show ∀ k (hk : k < d.l.length), find d.l[k].nm d.l = some d.l[k] ∧ d.l[k].nm.size ≤ 140737488351232 ∧ d.l[k].dt.length ≤ 4611686018427387904 from fun k hk => by
    have hm := List.getElem_mem hk
    have := (name_size (hok.nm _ hm)).2
    have := flen hok hm
    exact ⟨find_of_mem hok.up hm, by omega, by omega⟩)
  have HNO := hide (no_file hok)
  clear h hok
  go_enter Try.func20, Try.ntmps20
  go_upto_region 2 with (go_at_call 41; (with_reducible refine HN.out.mono ?_); rintro e w1 ⟨N, cN, rfl, hA⟩; have Q1 := hide hA.drew; clear hA HN)
  have QQ := Q1
  clear Q1
  go_region_held3 (fun w' => w'.cell? ⟨r, 1, none⟩ = some (.int .i64 d.q) ∧ w'.cell? ⟨r, 3, none⟩ = some (.bool d.off)) ((with_reducible exact QQ.out.rc))
    (first
      | (go_at_call 26; (with_reducible refine (names_q QQ.out.l.one.q hln).mono ?_); rintro e w' ⟨N2, cN2, rfl, _, hS, hb, _⟩; (have QN := hide (QQ.out.below hb)); (have HSS := hide (sameS_yes N2 N d.l.length cN2 cN (nms d.l) w' (length_nms _) hS QN.out.strs hlm)); clear QQ hS hb; (have QQ := QN); clear QN)
      | (go_at_call 27; (with_reducible refine HSS.out.mono ?_); rintro e w' ⟨rfl, q6, rfl⟩; (have QN := hide (QQ.out.below (below_drewN _ q6))); clear QQ HSS; (have QQ := QN); clear QN)
      | (go_at_call 24; (with_reducible refine (total_q QQ.out.l.one.q).mono ?_); rintro e w' ⟨rfl, hb⟩; (have QN := hide (QQ.out.below hb)); clear QQ hb; (have QQ := QN); clear QN)
      | (go_at_call 42; (with_reducible refine (QQ.out.rtot hln).mono ?_); rintro e w' ⟨rfl, rfl⟩)
      | (go_at_call 25; (with_reducible refine (room_q QQ.out.l.one.q).mono ?_); rintro e w' ⟨rfl, hb⟩; (have QN := hide (QQ.out.below hb)); clear QQ hb; (have QQ := QN); clear QN)
      | (go_at_call 17; (with_reducible refine (off_q QQ.out.l.one.q).mono ?_); rintro e w' ⟨rfl, rfl⟩))
  go_wp2_with fail
  go_loopw [6] (fun i wv => ∃ k : Nat, k ≤ d.l.length ∧ i = .int .i64 k ∧ Hid (Al W wv p r d N)) (fun i _ => d.l.length - (intOf i).toNat)
  case atStart => exact ⟨0, by omega, rfl, QQ⟩
  case round =>
    clear QQ
    obtain ⟨k, hk, rfl, hT⟩ := hrel
    by_cases hkn : k < d.l.length
    · obtain ⟨b5, o5, rfl, hl5, hc5⟩ := hT.out.strs.at_ (k := k) (x := d.l[k].nm) (by unfold nms; rw [List.getElem?_map, List.getElem?_eq_getElem hkn]; rfl)
      obtain ⟨hf, hsz, hdl⟩ := HNB.out k hkn
      generalize d.l[k] = f at *
      have HF := hide hf
      have HR1 := hide (read_run hT.out.l.one hf hsz)
      have hbc := hide (show ∀ w', Below wr.heap.size wr w' → w'.cell? ⟨b5, o5 + k, none⟩ = some (.string f.nm) from fun w' hb => (hb.cell (p := ⟨b5, o5 + k, none⟩) hl5).trans hc5)
      have HLE := hide hdl
      clear hf hdl
      go_wp2_with (first
        | (go_at_call 14; (with_reducible refine HR1.out.mono ?_); rintro e w7 ⟨A7, c7, rfl, h7, _, _, hb7⟩; have hc7 := hbc.out w7 hb7; have T7 := hide (hT.out.below hb7); have Z7 := hide h7.lies; have HR2 := hide (T7.out.rread hln HF.out); clear h7 hb7 HR1 hbc hc5)
        | (go_at_call 43; (with_reducible refine HR2.out.mono ?_); rintro e w8 ⟨⟨B8, c8, rfl, h8, _⟩, rfl⟩; have HS9 := hide (same_run (k := c8) (c := c7) T7.out.l.one Z7.out h8 rfl rfl HLE.out HLE.out (decide_eq_true rfl)); clear h8 HR2)
        | (go_at_call 16; (with_reducible refine HS9.out.mono ?_); rintro e w9 ⟨rfl, _, hb9⟩; have T9 := hide (T7.out.below hb9); clear hb9 HS9 T7))
      go_roundw
      case rel => exact ⟨k + 1, by omega, by go_num, T9⟩
      case measure => simp [intOf]; omega
    · have HRN := hide (show Calls Try.prog 14 #[.pointer (some ⟨p, 0, none⟩), .string ⟨#[110, 111, 32, 115, 117, 99, 104, 32, 102, 105, 108, 101]⟩] wr _ from (read_no (nm := noF) hT.out.l.one HNO.out (by decide)).mono fun _ _ ⟨A, c, h1, _, h3⟩ => (⟨A, c, h1, hT.out.l.below h3⟩ : ∃ A c, _ = Ending.returned (.tuple #[.slice A 0 c, .bool false]) ∧ Lb W (fun k => k < W.heap.size) _ p d r d))
      clear hT HNB HNO
      go_wp2_with (go_at_call 14; (with_reducible refine HRN.out.mono ?_); rintro e wz ⟨A0, c0, rfl, hL⟩; have HL := hide hL; clear hL HRN)
      go_ret
      exact ⟨rfl, HL.out⟩
end
end Go.Proofs.Ytllgjbkmemheoaa
