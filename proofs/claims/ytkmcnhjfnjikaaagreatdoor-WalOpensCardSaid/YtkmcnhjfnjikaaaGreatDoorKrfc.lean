/- Append of the document's disk. Conditions: the slice has room, what is appended lies apart. -/
import Derived.Test.YtkmcnhjfnjikaaaGreatDoorKrfb
import Derived.Test.YtkmcnhjfnjikaaaGreatDoorKbas
import Derived.Deep.QuietTactic
import Derived.BigQuiet
namespace Go.Proofs.YtkmcnhjfnjikaaaGreatDoor
open Go.RowKit Go.Maps
theorem quiet_l {P : Program} {f : FuncId} {args : Array Value} {w : World} {n : Nat} {v : Value} (h : Calls P f args (w.drewN n) fun e w' => e = .returned v ∧ w.drewN n = w') :
    Calls P f args (w.drewN n) fun e w'' => e = .returned v ∧ ∃ m, w'' = w.drewN m := h.mono fun _ _ ⟨he, hm⟩ => ⟨he, n, hm.symm⟩
theorem own_ps {w : World} {base n : Nat} {v : Value} {zs : List Int} (h : w.ownsRow base 5 1 v n (cellsOf zs)) : ∃ s : Ps, v = .slice s.A n s.2 ∧ w.ownsRow 0 5 1 (.slice s.A n s.2) n (cellsOf zs) ∧ ∀ r, s.1 = some r → base ≤ r ∧ r < w.heap.size := by
  rcases h.2 with ⟨hv, h0⟩ | ⟨q, cap, cur, hv, hb, hh, rest⟩
  · refine ⟨(none, 0), by rw [hv, h0]; rfl, ⟨h.1, .inl ⟨by rw [h0]; rfl, h0⟩⟩, fun r hr => (by cases hr)⟩
  · refine ⟨(some q, cap), hv, ⟨h.1, .inr ⟨q, cap, cur, rfl, Nat.zero_le _, hh, rest⟩⟩, fun r hr => ?_⟩
    injection hr with hr
    rw [← hr]
    exact ⟨hb, (Array.getElem?_eq_some_iff.1 hh).1⟩
section
variable {S : Nat → Prop} {w : World} {g : Nat} {R : List (Fl × Ps)} {A : Option Addr} {c : Nat} {d : DS} {nm : ByteArray} {B : Option Addr} {n cb : Nat} {zs : List Int}
theorem Chr.behind (h : Rp S w g R A c d) (hok : DOk d) (x : Int) {w' : World} (hb : Below w.heap.size w w') : Chr S w g x d (.returned (.int .i64 x)) w' := ⟨rfl, S, (h.below hb).rk hok, ⟨Turn.of_below hb, fun _ hk => .inl hk⟩⟩
set_option maxHeartbeats 1000000 in
theorem rapp_off (h : Rp S w g R A c d) (hok : DOk d) (ho : d.off = true) :
    Calls Tryz.prog 31 #[.pointer (some ⟨g, 0, none⟩), .string nm, .slice B n cb] w (Chr S w g 10 d) := by
  have c3 : w.cell? ⟨g, 3, none⟩ = some (.bool true) := by rw [← ho]; exact h.row.cell 3
  have H := hide (Chr.same (h.rk hok) 10)
  clear h hok ho
  go_enter Tryz.func31, Tryz.ntmps31
  go_wp2
  go_ret
  exact H.out
set_option maxHeartbeats 1000000 in
theorem rapp_path (h : Rp S w g R A c d) (hok : DOk d) (ho : d.off = false) (hs : nm.size ≤ 140737488351232) (hn : nameB nm = false) :
    Calls Tryz.prog 31 #[.pointer (some ⟨g, 0, none⟩), .string nm, .slice B n cb] w (Chr S w g 11 d) := by
  have c3 : w.cell? ⟨g, 3, none⟩ = some (.bool false) := by rw [← ho]; exact h.row.cell 3
  have H := hide (Chr.same (h.rk hok) 11)
  have hN := hide (hn ▸ rname_any nm w hs)
  clear h hok ho hn
  go_enter Tryz.func31, Tryz.ntmps31
  go_wp2_with (go_at_call 65; (with_reducible refine hN.out.mono ?_); rintro e w' ⟨rfl, rfl⟩)
  go_ret
  exact H.out
theorem below_drewN (w : World) (m : Nat) : Below w.heap.size w (w.drewN m) := ⟨rfl, rfl, rfl, Nat.le_refl _, fun _ _ => rfl⟩
set_option maxRecDepth 100000 in
set_option maxHeartbeats 1000000 in
theorem rapp_full (h : Rp S w g R A c d) (hok : DOk d) (hln : d.l.length ≤ 1000000) (hnb : n ≤ 1000000) (ho : d.off = false) (hn : nameB nm = true) (hf : d.q < total d.l + n) :
    Calls Tryz.prog 31 #[.pointer (some ⟨g, 0, none⟩), .string nm, .slice B n cb] w (Chr S w g 7 d) := by
  have c3 : w.cell? ⟨g, 3, none⟩ = some (.bool false) := by rw [← ho]; exact h.row.cell 3
  have c1 : w.cell? ⟨g, 1, none⟩ = some (.int .i64 d.q) := h.row.cell 1
  have H := hide (fun w' (hb : Below w.heap.size w w') => Chr.behind h hok 7 hb)
  have hs := (name_size hn).2
  have hN := hide (hn ▸ rname_any nm w (by omega))
  have HT := hide (fun w' (hb : Below w.heap.size w w') => rtotal_any (h.below hb) hok hln)
  have ht : (total d.l : Int) ≤ 1048576 := by have := hok.tot; have := hok.q; omega
  have hw1 : IntKind.i64.wrap ((total d.l : Int) + (n : Int)) = (total d.l : Int) + n := by rw [IntKind.wrap_i64]; omega
  clear h hok ho hn
  go_enter Tryz.func31, Tryz.ntmps31
  go_upto_region 5 with (go_at_call 65; (with_reducible refine hN.out.mono ?_); rintro e w' ⟨rfl, rfl⟩)
  go_quiet ((go_at_call 66; exact quiet_l (HT.out _ (below_drewN _ _))))
  go_wp2
  go_ret
  exact H.out _ (below_drewN _ _)
end
end Go.Proofs.YtkmcnhjfnjikaaaGreatDoor
/- Append of the document's disk, as far as it is done. Conditions: the slice has room, what is appended lies apart. -/
namespace Go.Proofs.YtkmcnhjfnjikaaaGreatDoor
open Go.RowKit Go.Maps
section
variable {S : Nat → Prop} {w : World} {g : Nat} {R : List (Fl × Ps)} {A : Option Addr} {c : Nat} {d : DS} {nm : ByteArray} {B : Option Addr} {n cb : Nat} {zs : List Int}
set_option maxRecDepth 100000 in
set_option maxHeartbeats 1000000 in
theorem rapp_down (h : Rp S w g R A c d) (hok : DOk d) (hln : d.l.length ≤ 1000000) (hnb : n ≤ 1000000) (ho : d.off = false) (hn : nameB nm = true) (hf : total d.l + n ≤ d.q) (h0 : d.left = 0) :
    Calls Tryz.prog 31 #[.pointer (some ⟨g, 0, none⟩), .string nm, .slice B n cb] w (Chr S w g 10 d.spent) := by
  have c3 : w.cell? ⟨g, 3, none⟩ = some (.bool false) := by rw [← ho]; exact h.row.cell 3
  have c1 : w.cell? ⟨g, 1, none⟩ = some (.int .i64 d.q) := h.row.cell 1
  have hs := (name_size hn).2
  have hN := hide (hn ▸ rname_any nm w (by omega))
  have HT := hide (fun w' (hb : Below w.heap.size w w') => rtotal_any (h.below hb) hok hln)
  have ht : (total d.l : Int) ≤ 1048576 := by have := hok.tot; have := hok.q; omega
  have hw1 : IntKind.i64.wrap ((total d.l : Int) + (n : Int)) = (total d.l : Int) + n := by rw [IntKind.wrap_i64]; omega
  have hle : ¬ d.q < (total d.l : Int) + n := by omega
  have hsp : d.spends = false := by unfold DS.spends; rw [h0]; rfl
  have HP := hide (fun w' (hb : Below w.heap.size w w') => hsp ▸ power_any (h.below hb) hok)
  have H := hide (show ∀ w1 w', Below w.heap.size w w1 → Rp S w' g R A c d.spent → w1.grownBy w' (some g) → Chr S w g 10 d.spent (.returned (.int .i64 10)) w' from fun w1 w' hb h1 h2 => ⟨rfl, S, h1.rk (dok_spent hok), ⟨(Turn.of_below hb).trans (Own.grown h.sg h2).turn (fun k hk => .inl hk), fun _ hk => .inl hk⟩⟩)
  clear h hok ho hn hsp h0
  go_enter Tryz.func31, Tryz.ntmps31
  go_upto_region 5 with (go_at_call 65; (with_reducible refine hN.out.mono ?_); rintro e w' ⟨rfl, rfl⟩)
  go_quiet ((go_at_call 66; exact quiet_l (HT.out _ (below_drewN _ _))))
  go_wp2_with (go_at_call 67; (with_reducible refine (HP.out _ (below_drewN _ _)).mono ?_); rintro e w1 ⟨rfl, hR, hG⟩)
  go_ret
  exact H.out _ _ (below_drewN _ _) hR hG
/-- The last region's beginning: the file is there. -/
structure Apq (S0 : Nat → Prop) (w0 : World) (d1 : DS) (w : World) (g : Nat) (B : Option Addr) (zs : List Int) (k b off nl c n0 : Nat) (s : Ps) (f : Fl) : Prop where
  c0 : w.cell? ⟨g, 0, none⟩ = some (.slice (some ⟨b, off, none⟩) nl c)
  c1 : w.cell? ⟨b, off + k * 3 + 1, none⟩ = some (.slice s.A n0 s.2)
  f1 : w.frozen? ⟨b, off + k * 3 + 1, none⟩ = false
  hk : k < nl
  hb : b < w.heap.size
  hg : g < w.heap.size
  old : Lies w s.A f.dt
  nil : s.A = none → s.2 = 0
  add : Lies w B zs
  len : f.dt.length = n0
  le : n0 ≤ 1048576
  fin : ∀ w' v, Below w.heap.size w w' → w'.ownsRow w.heap.size 5 1 v (n0 + zs.length) (cellsOf (f.dt ++ zs)) → Chr S0 w0 g 0 d1 (.returned (.int .i64 0)) (w'.setCell ⟨b, off + k * 3 + 1, none⟩ v)
theorem frozen_below {w w' : World} {a : Addr} (h : w.frozen? a = false) (hb : Below w.heap.size w w') (hl : a.block < w.heap.size) : w'.frozen? a = false := by
  unfold World.frozen? at h ⊢
  rw [hb.block _ hl]; exact h
section
variable {S0 : Nat → Prop} {w0 : World} {d1 : DS} {k b off nl c n0 : Nat} {s : Ps} {f : Fl} {w' : World}
theorem Apq.two (h : Apq S0 w0 d1 w g B zs k b off nl c n0 s f) (hb : Below w.heap.size w w') : w'.cell? ⟨g, 0, none⟩ = some (.slice (some ⟨b, off, none⟩) nl c) ∧ w'.cell? ⟨b, off + k * 3 + 1, none⟩ = some (.slice s.A n0 s.2) :=
  ⟨(hb.cell (p := ⟨g, 0, none⟩) h.hg).trans h.c0, (hb.cell (p := ⟨b, off + k * 3 + 1, none⟩) h.hb).trans h.c1⟩
theorem Apq.drew (h : Apq S0 w0 d1 w g B zs k b off nl c n0 s f) : Apq S0 w0 d1 w.drew g B zs k b off nl c n0 s f :=
  ⟨h.c0, h.c1, h.f1, h.hk, h.hb, h.hg, h.old.below (below_drew w), h.nil, h.add.below (below_drew w), h.len, h.le, fun w' v hb ho => h.fin w' v ⟨hb.os, hb.tape, hb.output, hb.size, hb.block⟩ ho⟩
end
/-- The file's bytes anew, behind place. -/
theorem Rp.apq {S2 S3 : Nat → Prop} {w3 : World} {R3 : List (Fl × Ps)} {A3 : Option Addr} {c3 : Nat} (hok : DOk d) (h : Rp S3 w3 g R3 A3 c3 { d.spent with l := plcL nm d.l }) (ho : Own S2 w S3 w3) {k : Nat} {f : Fl} (hk : (plcL nm d.l)[k]? = some f) (hf : f.nm = nm)
    (hn : nameB nm = true) (hz : Octets zs) (htot : total d.l + zs.length ≤ d.q) (hB : Lies w3 B zs) :
    ∃ b off s, A3 = some ⟨b, off, none⟩ ∧ Apq S2 w { d.spent with l := putF ⟨nm, datO (find nm d.l) ++ zs, kepO (find nm d.l)⟩ d.l } w3 g B zs k b off (plcL nm d.l).length c3 f.dt.length s f := by
  obtain ⟨b, off, s, rfl, hs, hkl, _⟩ := h.at_ hk
  have hup := plc_up (nm := nm) hok.up
  have hff : f = ⟨nm, datO (find nm d.l), kepO (find nm d.l)⟩ := by
    have h1 := find_at hup hk
    rw [hf, plc_find hok.up] at h1
    exact (Option.some.inj h1).symm
  have hdt : f.dt = datO (find nm d.l) := by rw [hff]
  have hle : f.dt.length ≤ total d.l ∧ Octets (datO (find nm d.l)) ∧ kepO (find nm d.l) ≤ (datO (find nm d.l)).length := by
    rw [hdt]
    cases hfd : find nm d.l with
    | none => exact ⟨Nat.zero_le _, fun z hz => (by cases hz), Nat.le_refl _⟩
    | some x =>
      obtain ⟨hm, _⟩ := find_mem hfd
      have := total_delF nm d.l hok.up
      rw [hfd] at this
      simp only [lenO] at this
      exact ⟨by show x.dt.length ≤ _; omega, hok.oct x hm, hok.kp x hm⟩
  obtain ⟨q0, q1, _, z1, _⟩ := h.look hs
  have hm := List.mem_of_getElem? hs
  have hd := h.dat (f, s) hm
  have hq := hok.q
  refine ⟨b, off, s, rfl, q0, q1, z1, hkl, h.lt _ (h.sA _ rfl), h.row.lt, Lies.of_own hd, fun e => ?_, hB, rfl, by omega, fun w' v hb hv => ?_⟩
  · rcases hd.2 with ⟨hv, _⟩ | ⟨q, cap, cur, hv, _⟩
    · injection hv
    · injection hv with h1; simp only at h1; rw [e] at h1; cases h1
  · obtain ⟨s', rfl, ho', hs'⟩ := own_ps hv
    have hlen : (f.dt ++ zs).length = f.dt.length + zs.length := List.length_append
    obtain ⟨⟨h2, hT⟩, _⟩ := h.store hb (i := 1) (u := .slice s'.A (f.dt.length + zs.length) s'.2) (y := (⟨f.nm, f.dt ++ zs, f.kp⟩, s')) rfl hs (by omega) (by show _ = cell3 _; unfold cell3; simp only [hlen]; rfl) (by simp only [hlen]; exact ho') (fun r hr => .inr (hs' r hr))
    have hok2 : DOk { d.spent with l := putF ⟨nm, datO (find nm d.l) ++ zs, kepO (find nm d.l)⟩ d.l } := by
      have := dok_put (dok_spent hok) ⟨nm, datO (find nm d.l) ++ zs, kepO (find nm d.l)⟩ (by have := hle.2.2; simp only [List.length_append]; omega) hn (fun z hz' => (List.mem_append.1 hz').elim (hle.2.1 z) (hz z)) (by
        rw [spent_l, spent_q]; simp only [List.length_append]
        have : (datO (find nm d.l)).length = lenO (find nm d.l) := by cases find nm d.l <;> rfl
        omega)
      rw [spent_l] at this; exact this
    simp only at h2
    rw [show (plcL nm d.l).set k (⟨f.nm, f.dt ++ zs, f.kp⟩ : Fl) = putF ⟨nm, datO (find nm d.l) ++ zs, kepO (find nm d.l)⟩ d.l from by
      rw [← putF_set (f := f) (f' := ⟨f.nm, f.dt ++ zs, f.kp⟩) rfl hup hk, hff]
      exact plc_put (f := ⟨nm, datO (find nm d.l) ++ zs, kepO (find nm d.l)⟩)] at h2
    exact ⟨rfl, _, h2.rk hok2, ho.trans (Own.more hT)⟩
end
end Go.Proofs.YtkmcnhjfnjikaaaGreatDoor
/- Append of the document's disk: the bytes are appended. Conditions: the slice has room, what is appended lies apart. -/
namespace Go.Proofs.YtkmcnhjfnjikaaaGreatDoor
open Go.RowKit Go.Maps
section
variable {S : Nat → Prop} {w : World} {g : Nat} {R : List (Fl × Ps)} {A : Option Addr} {c : Nat} {d : DS} {nm : ByteArray} {B : Option Addr} {n cb : Nat} {zs : List Int}
set_option maxRecDepth 100000 in
set_option maxHeartbeats 4000000 in
theorem rapp_do (h : Rp S w g R A c d) (hok : DOk d) (hln : d.l.length ≤ 1000000) (hnb : n ≤ 1000000) (hm : zs.length = n) (hcB : B = none → cb = 0) (hB : Lies w B zs) (hout : Out S B zs) (hz : Octets zs) (ho : d.off = false) (hn : nameB nm = true) (hf : total d.l + n ≤ d.q) (h0 : d.left ≠ 0) :
    Calls Tryz.prog 31 #[.pointer (some ⟨g, 0, none⟩), .string nm, .slice B n cb] w (Chr S w g 0 { d.spent with l := putF ⟨nm, datO (find nm d.l) ++ zs, kepO (find nm d.l)⟩ d.l }) := by
  obtain ⟨i0, hi, hz0, hz1, hz2⟩ := info_parts Tryz.info5
  have HI := hide (And.intro hi (And.intro hz0 (And.intro hz1 hz2)))
  have c3 : w.cell? ⟨g, 3, none⟩ = some (.bool false) := by rw [← ho]; exact h.row.cell 3
  have c1 : w.cell? ⟨g, 1, none⟩ = some (.int .i64 d.q) := h.row.cell 1
  have hs := (name_size hn).2
  have hN := hide (hn ▸ rname_any nm w (by omega))
  have HT := hide (fun w' (hb : Below w.heap.size w w') => rtotal_any (h.below hb) hok hln)
  have ht : (total d.l : Int) ≤ 1048576 := by have := hok.tot; have := hok.q; omega
  have hw1 : IntKind.i64.wrap ((total d.l : Int) + (n : Int)) = (total d.l : Int) + n := by rw [IntKind.wrap_i64]; omega
  have hle : ¬ d.q < (total d.l : Int) + n := by omega
  have hsp : d.spends = true := by unfold DS.spends; simpa using h0
  have HP := hide (fun w' (hb : Below w.heap.size w w') => hsp ▸ power_any (h.below hb) hok)
  have HPL := hide (fun w2 (h2 : Rp S w2 g R A c d.spent) => place_any h2 (by rw [spent_l]; exact hok.up) nm (by rw [spent_l]; exact hln))
  have H := hide (show ∀ w1 w2 w3 k f S3 R3 A3 c3, Below w.heap.size w w1 → w1.grownBy w2 (some g) → Rp S3 w3 g R3 A3 c3 { d.spent with l := plcL nm d.spent.l } → Own S w2 S3 w3 → (plcL nm d.spent.l)[k]? = some f → f.nm = nm →
      ∃ b off nl n0 s, Apq S w { d.spent with l := putF ⟨nm, datO (find nm d.l) ++ zs, kepO (find nm d.l)⟩ d.l } w3 g B zs k b off nl c3 n0 s f from by
    intro w1 w2 w3 k f S3 R3 A3 c3 hb hG h3 hO hk hfn
    rw [spent_l] at h3 hk
    have hO3 : Own S w S3 w3 := Own.trans ⟨(Turn.of_below hb).trans (Own.grown h.sg hG).turn (fun k hk => .inl hk), fun _ hk => .inl hk⟩ hO
    obtain ⟨b, off, s, rfl, hq⟩ := Rp.apq hok h3 hO3 hk hfn hn hz (by omega) (hB.turn hO3.turn hout)
    exact ⟨b, off, _, _, s, hq⟩)
  have HCB := hide hcB
  clear h hok ho hn hsp h0 hB hout hz hi hz0 hz1 hz2 hcB
  subst hm
  go_enter Tryz.func31, Tryz.ntmps31
  go_upto_region 5 with (go_at_call 65; (with_reducible refine hN.out.mono ?_); rintro e w' ⟨rfl, rfl⟩)
  go_quiet ((go_at_call 66; exact quiet_l (HT.out _ (below_drewN _ _))))
  go_upto_region 10 with (first
    | (go_at_call 67; (with_reducible refine (HP.out _ (below_drewN _ _)).mono ?_); rintro e w1 ⟨rfl, hR, hG⟩)
    | (go_at_call 68; (with_reducible refine (HPL.out _ hR).mono ?_); rintro e w3 ⟨k, f, S3, R3, A3, c3', rfl, hR3, ⟨hO3, _⟩, hk3, hf3⟩))
  obtain ⟨b, off, nl, n0, s, hq⟩ := H.out _ _ _ _ _ _ _ _ _ (below_drewN _ _) hG hR3 hO3 hk3 hf3
  have QQ := hide hq.drew
  have hknl := hq.hk
  clear hq hR3 hO3 hk3 hf3 hR hG H HPL HP HT hN c3 c1 ht hw1 hle hs hf
  refine wp_region_noPanic ?_
  refine wp_region_T 19 (fun w' => w'.cell? ⟨g, 0, none⟩ = some (.slice (some ⟨b, off, none⟩) nl c3') ∧ w'.cell? ⟨b, off + k * 3 + 1, none⟩ = some (.slice s.A n0 s.2)) (by kernel_rfl) ?_
  generalize World.drew _ = wd at QQ ⊢
  refine anyT_take (i := 0) (v := ?ov0) (by simp only [List.getElem?_toArray, List.getElem?_cons_zero]; exact rfl) (by kernel_rfl) (by kernel_rfl) (fun _ _ _ h => h) (by kernel_rfl) (by kernel_rfl) (Or.inl ⟨by rfl, ?oy0⟩) (by with_reducible exact (QQ.out.two (Below.refl _ _))) ?or0
  case oy0 => (intro w hSw; (try dsimp only at hSw); go_simp; try with_reducible rfl)
  try simp only [Act.put, List.setIfInBounds_toArray, List.set_cons_zero, List.set_cons_succ]
  refine anyT_take (i := 1) (v := ?ov1) (by simp only [List.getElem?_toArray, List.getElem?_cons_succ, List.getElem?_cons_zero]; exact rfl) (by kernel_rfl) (by kernel_rfl) (fun _ _ _ h => h) (by kernel_rfl) (by kernel_rfl) (Or.inl ⟨by rfl, ?oy1⟩) (by with_reducible exact (QQ.out.two (Below.refl _ _))) ?or1
  case oy1 => (intro w hSw; (try dsimp only at hSw); go_simp; try with_reducible rfl)
  try simp only [Act.put, List.setIfInBounds_toArray, List.set_cons_zero, List.set_cons_succ]
  refine anyT_take (i := 2) (v := ?ov2) (by simp only [List.getElem?_toArray, List.getElem?_cons_succ, List.getElem?_cons_zero]; exact rfl) (by kernel_rfl) (by kernel_rfl) (fun _ _ _ h => h) (by kernel_rfl) (by kernel_rfl) (Or.inl ⟨by rfl, ?oy2⟩) (by with_reducible exact (QQ.out.two (Below.refl _ _))) ?or2
  case oy2 => (intro w hSw; (try dsimp only at hSw); go_simp; try with_reducible rfl)
  try simp only [Act.put, List.setIfInBounds_toArray, List.set_cons_zero, List.set_cons_succ]
  refine anyT_take (i := 3) (v := ?ov3) (by simp only [List.getElem?_toArray, List.getElem?_cons_succ, List.getElem?_cons_zero]; exact rfl) (by kernel_rfl) (by kernel_rfl) (fun _ _ _ h => h) (by kernel_rfl) (by kernel_rfl) (Or.inl ⟨by rfl, ?oy3⟩) (by with_reducible exact (QQ.out.two (Below.refl _ _))) ?or3
  case oy3 => (intro w hSw; (try dsimp only at hSw); go_simp; try with_reducible rfl)
  try simp only [Act.put, List.setIfInBounds_toArray, List.set_cons_zero, List.set_cons_succ]
  refine anyT_take (i := 4) (v := ?ov4) (by simp only [List.getElem?_toArray, List.getElem?_cons_succ, List.getElem?_cons_zero]; exact rfl) (by kernel_rfl) (by kernel_rfl) (fun _ _ _ h => h) (by kernel_rfl) (by kernel_rfl) (Or.inl ⟨by rfl, ?oy4⟩) (by with_reducible exact (QQ.out.two (Below.refl _ _))) ?or4
  case oy4 => (intro w hSw; (try dsimp only at hSw); go_simp; try with_reducible rfl)
  try simp only [Act.put, List.setIfInBounds_toArray, List.set_cons_zero, List.set_cons_succ]
  refine anyT_take (i := 6) (v := ?ov6) (by simp only [List.getElem?_toArray, List.getElem?_cons_succ, List.getElem?_cons_zero]; exact rfl) (by kernel_rfl) (by kernel_rfl) (fun _ _ _ h => h) (by kernel_rfl) (by kernel_rfl) (Or.inl ⟨by rfl, ?oy6⟩) (by with_reducible exact (QQ.out.two (Below.refl _ _))) ?or6
  case oy6 => (intro w hSw; (try dsimp only at hSw); go_simp; try with_reducible rfl)
  try simp only [Act.put, List.setIfInBounds_toArray, List.set_cons_zero, List.set_cons_succ]
  refine anyT_take (i := 7) (v := ?ov7) (by simp only [List.getElem?_toArray, List.getElem?_cons_succ, List.getElem?_cons_zero]; exact rfl) (by kernel_rfl) (by kernel_rfl) (fun _ _ _ h => h) (by kernel_rfl) (by kernel_rfl) (Or.inl ⟨by rfl, ?oy7⟩) (by with_reducible exact (QQ.out.two (Below.refl _ _))) ?or7
  case oy7 => (intro w hSw; (try dsimp only at hSw); go_simp; try with_reducible rfl)
  try simp only [Act.put, List.setIfInBounds_toArray, List.set_cons_zero, List.set_cons_succ]
  refine anyT_take (i := 8) (v := ?ov8) (by simp only [List.getElem?_toArray, List.getElem?_cons_succ, List.getElem?_cons_zero]; exact rfl) (by kernel_rfl) (by kernel_rfl) (fun _ _ _ h => h) (by kernel_rfl) (by kernel_rfl) (Or.inl ⟨by rfl, ?oy8⟩) (by with_reducible exact (QQ.out.two (Below.refl _ _))) ?or8
  case oy8 => (intro w hSw; (try dsimp only at hSw); go_simp; try with_reducible rfl)
  try simp only [Act.put, List.setIfInBounds_toArray, List.set_cons_zero, List.set_cons_succ]
  refine anyT_take (i := 9) (v := ?ov9) (by simp only [List.getElem?_toArray, List.getElem?_cons_succ, List.getElem?_cons_zero]; exact rfl) (by kernel_rfl) (by kernel_rfl) (fun _ _ _ h => h) (by kernel_rfl) (by kernel_rfl) (Or.inl ⟨by rfl, ?oy9⟩) (by with_reducible exact (QQ.out.two (Below.refl _ _))) ?or9
  case oy9 => (intro w hSw; (try dsimp only at hSw); go_simp; try with_reducible rfl)
  try simp only [Act.put, List.setIfInBounds_toArray, List.set_cons_zero, List.set_cons_succ]
  refine anyT_take (i := 10) (v := ?ov10) (by simp only [List.getElem?_toArray, List.getElem?_cons_succ, List.getElem?_cons_zero]; exact rfl) (by kernel_rfl) (by kernel_rfl) (fun _ _ _ h => h) (by kernel_rfl) (by kernel_rfl) (Or.inl ⟨by rfl, ?oy10⟩) (by with_reducible exact (QQ.out.two (Below.refl _ _))) ?or10
  case oy10 => (intro w hSw; (try dsimp only at hSw); go_simp; try with_reducible rfl)
  try simp only [Act.put, List.setIfInBounds_toArray, List.set_cons_zero, List.set_cons_succ]
  refine anyT_take (i := 11) (v := ?ov11) (by simp only [List.getElem?_toArray, List.getElem?_cons_succ, List.getElem?_cons_zero]; exact rfl) (by kernel_rfl) (by kernel_rfl) (fun _ _ _ h => h) (by kernel_rfl) (by kernel_rfl) (Or.inl ⟨by rfl, ?oy11⟩) (by with_reducible exact (QQ.out.two (Below.refl _ _))) ?or11
  case oy11 => (intro w hSw; (try dsimp only at hSw); go_simp; try with_reducible rfl)
  try simp only [Act.put, List.setIfInBounds_toArray, List.set_cons_zero, List.set_cons_succ]
  refine anyT_take (i := 12) (v := ?ov12) (by simp only [List.getElem?_toArray, List.getElem?_cons_succ, List.getElem?_cons_zero]; exact rfl) (by kernel_rfl) (by kernel_rfl) (fun _ _ _ h => h) (by kernel_rfl) (by kernel_rfl) (Or.inl ⟨by rfl, ?oy12⟩) (by with_reducible exact (QQ.out.two (Below.refl _ _))) ?or12
  case oy12 => (intro w hSw; (try dsimp only at hSw); go_simp; try with_reducible rfl)
  try simp only [Act.put, List.setIfInBounds_toArray, List.set_cons_zero, List.set_cons_succ]
  refine anyT_take (i := 13) (v := ?ov13) (by simp only [List.getElem?_toArray, List.getElem?_cons_succ, List.getElem?_cons_zero]; exact rfl) (by kernel_rfl) (by kernel_rfl) (fun _ _ _ h => h) (by kernel_rfl) (by kernel_rfl) (Or.inl ⟨by rfl, ?oy13⟩) (by with_reducible exact (QQ.out.two (Below.refl _ _))) ?or13
  case oy13 => (intro w hSw; (try dsimp only at hSw); go_simp; try with_reducible rfl)
  try simp only [Act.put, List.setIfInBounds_toArray, List.set_cons_zero, List.set_cons_succ]
  refine anyT_take (i := 15) (v := ?ov15) (by simp only [List.getElem?_toArray, List.getElem?_cons_succ, List.getElem?_cons_zero]; exact rfl) (by kernel_rfl) (by kernel_rfl) (fun _ _ _ h => h) (by kernel_rfl) (by kernel_rfl) (Or.inl ⟨by rfl, ?oy15⟩) (by with_reducible exact (QQ.out.two (Below.refl _ _))) ?or15
  case oy15 => (intro w hSw; (try dsimp only at hSw); go_simp; try with_reducible rfl)
  try simp only [Act.put, List.setIfInBounds_toArray, List.set_cons_zero, List.set_cons_succ]
  have HB := hide (Below.refl wd.heap.size wd)
  refine anyT_one (i := 5) (by kernel_rfl) (by simp only [List.getElem?_toArray, List.getElem?_cons_succ, List.getElem?_cons_zero]; exact rfl) (fun K hK => ?_)
  go_simp
  have HBN := hide (HB.out.alloc HB.out.size (.cells #[] 5))
  have HG := hide (show (wd.alloc (.cells #[] 5)).ownsRow wd.heap.size 5 1 (.slice (some ⟨wd.heap.size, 0, none⟩) 0 0) 0 (cellsOf []) from wd.ownsRow_made #[] 0 (Nat.le_refl _) (by unfold maxLen; omega) rfl)
  refine hK.out _ _ (fun _ => QQ.out.two HBN.out) ?_
  clear hK K HB
  try simp only [Act.put, List.setIfInBounds_toArray, List.set_cons_zero, List.set_cons_succ]
  generalize World.alloc wd _ = wa at HBN HG ⊢
  have HB := HBN
  clear HBN
  refine anyT_one (i := 14) (by kernel_rfl) (by simp only [List.getElem?_toArray, List.getElem?_cons_succ, List.getElem?_cons_zero]; exact rfl) (fun K hK => ?_)
  refine step_append_bytes (by rfl) (.tmp 40) (.tmp 48) 31 (by rfl) wd.heap.size 5 i0 _ Tryz.underlying31 HI.out.1 HI.out.2.1 HI.out.2.2.1 HI.out.2.2.2 rfl _ 0 [] (by rfl) HG.out s.A n0 s.2 f.dt (by rfl) QQ.out.len QQ.out.nil (QQ.out.old.below HB.out) (by have := QQ.out.le; omega) HB.out.size (fun v1 w14 hO hb => ?_)
  have HBN := hide (HB.out.trans hb)
  have HGN := hide hO
  refine hK.out _ _ (fun _ => QQ.out.two HBN.out) ?_
  clear hK K HB HG hO hb
  try simp only [Act.put, List.setIfInBounds_toArray, List.set_cons_zero, List.set_cons_succ]
  have HB := HBN
  clear HBN
  have HG := HGN
  clear HGN
  refine anyT_one (i := 16) (by kernel_rfl) (by simp only [List.getElem?_toArray, List.getElem?_cons_succ, List.getElem?_cons_zero]; exact rfl) (fun K hK => ?_)
  refine step_append_bytes (by rfl) (.tmp 49) (.tmp 50) 31 (by rfl) wd.heap.size 5 i0 _ Tryz.underlying31 HI.out.1 HI.out.2.1 HI.out.2.2.1 HI.out.2.2.2 rfl _ _ _ (by rfl) HG.out B zs.length cb zs (by rfl) rfl HCB.out (QQ.out.add.below HB.out) (by have := QQ.out.le; omega) HB.out.size (fun v2 w16 hO hb => ?_)
  have HBN := hide (HB.out.trans hb)
  rw [Nat.zero_add, List.nil_append] at hO
  have FIN := hide (QQ.out.fin _ _ HBN.out hO)
  obtain ⟨s', rfl, _⟩ := own_ps hO
  refine hK.out _ _ (fun _ => QQ.out.two HBN.out) ?_
  clear hK K HB HG hO hb
  try simp only [Act.put, List.setIfInBounds_toArray, List.set_cons_zero, List.set_cons_succ]
  have HB := HBN
  clear HBN
  refine anyT_one (i := 17) (by kernel_rfl) (by simp only [List.getElem?_toArray, List.getElem?_cons_succ, List.getElem?_cons_zero]; exact rfl) (fun K hK => ?_)
  go_simp
  refine hK.out _ _ (fun _ => QQ.out.two HB.out) ?_
  clear hK K
  try simp only [Act.put, List.setIfInBounds_toArray, List.set_cons_zero, List.set_cons_succ]
  refine anyT_one (i := 18) (by kernel_rfl) (by simp only [List.getElem?_toArray, List.getElem?_cons_succ, List.getElem?_cons_zero]; exact rfl) (fun K hK => ?_)
  go_simp
  refine hK.out _ _ (fun _ => QQ.out.two HB.out) ?_
  clear hK K
  try simp only [Act.put, List.setIfInBounds_toArray, List.set_cons_zero, List.set_cons_succ]
  refine anyT_one (i := 19) (by kernel_rfl) (by simp only [List.getElem?_toArray, List.getElem?_cons_succ, List.getElem?_cons_zero]; exact rfl) (fun K hK => ?_)
  have f0 : World.frozen? _ ⟨b, off + k * 3 + 1, none⟩ = false := frozen_below QQ.out.f1 HB.out QQ.out.hb
  have f1 := (QQ.out.two HB.out).2
  go_simp
  refine hK.out _ _ (fun e => absurd rfl e) ?_
  clear hK K f0 f1
  refine anyT_done (by kernel_rfl) ?_
  refine NoPanic.normal ?_
  go_wp2_with fail
  all_goals go_ret
  all_goals exact FIN.out
end
end Go.Proofs.YtkmcnhjfnjikaaaGreatDoor
/- Append of the document's disk, said at once; a file's bytes, and what is kept of them, turn. Conditions: the slice has room, what is appended lies apart. -/
namespace Go.Proofs.YtkmcnhjfnjikaaaGreatDoor
open Go.RowKit Go.Maps
section
variable {S : Nat → Prop} {w w' : World} {g : Nat} {R : List (Fl × Ps)} {A : Option Addr} {c : Nat} {d : DS} {nm : ByteArray} {B : Option Addr} {n cb : Nat} {zs : List Int}
theorem rapp_any (h : Rp S w g R A c d) (hok : DOk d) (hln : d.l.length ≤ 1000000) (hnb : n ≤ 1000000) (hs : nm.size ≤ 140737488351232) (hm : zs.length = n) (hcB : B = none → cb = 0) (hB : Lies w B zs) (hout : Out S B zs) (hz : Octets zs) :
    Calls Tryz.prog 31 #[.pointer (some ⟨g, 0, none⟩), .string nm, .slice B n cb] w (Chr S w g (appE d nm zs) (appS d nm zs)) := by
  unfold appE appS
  cases ho : d.off with
  | true => rw [if_pos rfl, if_pos rfl]; exact rapp_off h hok ho
  | false =>
    rw [if_neg Bool.false_ne_true, if_neg Bool.false_ne_true]
    cases hn : nameB nm with
    | false => rw [if_pos rfl, if_pos rfl]; exact rapp_path h hok ho hs hn
    | true =>
      rw [if_neg (show ¬ true = false by decide), if_neg (show ¬ true = false by decide), hm]
      by_cases hf : d.q < (total d.l : Int) + n
      · rw [if_pos hf, if_pos hf]; exact rapp_full h hok hln hnb ho hn hf
      · rw [if_neg hf, if_neg hf]
        by_cases h0 : d.left = 0
        · rw [if_pos h0, if_pos h0]; exact rapp_down h hok hln hnb ho hn (by omega) h0
        · rw [if_neg h0, if_neg h0]; exact rapp_do h hok hln hnb hm hcB hB hout hz ho hn (by omega) h0
/-- A file's bytes anew. -/
theorem Rp.bytes {b off k t : Nat} {f : Fl} {s : Ps} {v : Value} (h : Rp S w g R (some ⟨b, off, none⟩) c d) (hs : R[k]? = some (f, s)) (hb : Below w.heap.size w w') (hl : zs.length = t) (hv : w'.ownsRow w.heap.size 5 1 v t (cellsOf zs)) :
    ∃ s' : Ps, v = .slice s'.A t s'.2 ∧ ∃ S2, Rp S2 (w'.setCell ⟨b, off + k * 3 + 1, none⟩ v) g (R.set k (⟨f.nm, zs, f.kp⟩, s')) (some ⟨b, off, none⟩) c { d with l := d.l.set k ⟨f.nm, zs, f.kp⟩ } ∧ Own S w S2 (w'.setCell ⟨b, off + k * 3 + 1, none⟩ v) := by
  subst hl
  obtain ⟨s', rfl, ho', hs'⟩ := own_ps hv
  obtain ⟨⟨h2, hT⟩, _⟩ := h.store hb (i := 1) (u := .slice s'.A zs.length s'.2) (y := (⟨f.nm, zs, f.kp⟩, s')) rfl hs (by omega) rfl ho' (fun r hr => .inr (hs' r hr))
  exact ⟨s', rfl, _, h2, Own.more hT⟩
/-- What is kept of a file anew. -/
theorem Rp.keeps {b off k : Nat} {f : Fl} {s : Ps} (h : Rp S w g R (some ⟨b, off, none⟩) c d) (hs : R[k]? = some (f, s)) (q : Nat) :
    ∃ S2, Rp S2 (w.setCell ⟨b, off + k * 3 + 2, none⟩ (.int .i64 q)) g (R.set k (⟨f.nm, f.dt, q⟩, s)) (some ⟨b, off, none⟩) c { d with l := d.l.set k ⟨f.nm, f.dt, q⟩ } ∧ Own S w S2 (w.setCell ⟨b, off + k * 3 + 2, none⟩ (.int .i64 q)) := by
  obtain ⟨⟨h2, hT⟩, _⟩ := h.store (Below.refl _ _) (i := 2) (u := .int .i64 q) (y := (⟨f.nm, f.dt, q⟩, s)) rfl hs (by omega) rfl (h.dat (f, s) (List.mem_of_getElem? hs)) (fun r hr => .inl (h.sd (f, s) (List.mem_of_getElem? hs) r hr))
  exact ⟨_, h2, Own.more hT⟩
/-- What a region that lays a file's bytes anew begins with. -/
structure Bpq (w : World) (g k b off nl c : Nat) (s : Ps) (f : Fl) : Prop where
  c0 : w.cell? ⟨g, 0, none⟩ = some (.slice (some ⟨b, off, none⟩) nl c)
  c1 : w.cell? ⟨b, off + k * 3 + 1, none⟩ = some (.slice s.A f.dt.length s.2)
  c2 : w.cell? ⟨b, off + k * 3 + 2, none⟩ = some (.int .i64 f.kp)
  f1 : w.frozen? ⟨b, off + k * 3 + 1, none⟩ = false
  f2 : w.frozen? ⟨b, off + k * 3 + 2, none⟩ = false
  hk : k < nl
  hb : b < w.heap.size
  hg : g < w.heap.size
  old : Lies w s.A f.dt
  nil : s.A = none → s.2 = 0
  cap : f.dt.length ≤ s.2
theorem own1_cap {e : TypeId} {n : Nat} {vs : List Value} (h : w.ownsRow 0 e 1 (.slice A n c) n vs) : n ≤ c ∧ (A = none → c = 0) := by
  rcases h.2 with ⟨hv, h0⟩ | ⟨g, cap, cur, hv, _, _, hc, _⟩
  · injection hv with h1 _ h3; exact ⟨by omega, fun _ => h3⟩
  · injection hv with h1 _ h3; exact ⟨by omega, fun e => by rw [e] at h1; cases h1⟩
theorem Rp.bpq {b off k : Nat} {f : Fl} {s : Ps} (h : Rp S w g R (some ⟨b, off, none⟩) c d) (hs : R[k]? = some (f, s)) : Bpq w g k b off d.l.length c s f := by
  obtain ⟨q0, q1, q2, z1, z2⟩ := h.look hs
  have hd := h.dat (f, s) (List.mem_of_getElem? hs)
  have hk : k < d.l.length := by
    have : d.l[k]? = some f := by rw [← h.ls, List.getElem?_map, hs]; rfl
    exact (List.getElem?_eq_some_iff.1 this).1
  exact ⟨q0, q1, q2, z1, z2, hk, h.lt _ (h.sA _ rfl), h.row.lt, Lies.of_own hd, (own1_cap hd).2, (own1_cap hd).1⟩
section
variable {k b off nl : Nat} {s : Ps} {f : Fl}
theorem Bpq.two (h : Bpq w g k b off nl c s f) (hb : Below w.heap.size w w') : w'.cell? ⟨g, 0, none⟩ = some (.slice (some ⟨b, off, none⟩) nl c) ∧ w'.cell? ⟨b, off + k * 3 + 1, none⟩ = some (.slice s.A f.dt.length s.2) :=
  ⟨(hb.cell (p := ⟨g, 0, none⟩) h.hg).trans h.c0, (hb.cell (p := ⟨b, off + k * 3 + 1, none⟩) h.hb).trans h.c1⟩
theorem Bpq.pair (h : Bpq w g k b off nl c s f) (hb : Below w.heap.size w w') : w'.cell? ⟨b, off + k * 3 + 1, none⟩ = some (.slice s.A f.dt.length s.2) ∧ w'.cell? ⟨b, off + k * 3 + 2, none⟩ = some (.int .i64 f.kp) :=
  ⟨(hb.cell (p := ⟨b, off + k * 3 + 1, none⟩) h.hb).trans h.c1, (hb.cell (p := ⟨b, off + k * 3 + 2, none⟩) h.hb).trans h.c2⟩
theorem Bpq.drew (h : Bpq w g k b off nl c s f) : Bpq w.drew g k b off nl c s f := ⟨h.c0, h.c1, h.c2, h.f1, h.f2, h.hk, h.hb, h.hg, h.old.below (below_drew w), h.nil, h.cap⟩
end
theorem Rp.drew (h : Rp S w g R A c d) : Rp S w.drew g R A c d := h.below (below_drew w)
end
end Go.Proofs.YtkmcnhjfnjikaaaGreatDoor
