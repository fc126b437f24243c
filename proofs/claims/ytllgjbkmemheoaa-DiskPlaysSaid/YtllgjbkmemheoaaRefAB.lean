/- Append of the document's disk. Conditions: the slice has room, what is appended lies apart. -/
import Derived.Test.YtllgjbkmemheoaaRefs
import Derived.Test.YtllgjbkmemheoaaStep
import Derived.Deep.QuietTactic
import Derived.BigQuiet
namespace Go.Proofs.Ytllgjbkmemheoaa
open Go.RowKit Go.Maps
theorem quiet_l {P : Program} {f : FuncId} {args : Array Value} {w : World} {n : Nat} {v : Value} (h : Calls P f args (w.drewN n) fun e w' => e = .returned v ∧ w.drewN n = w') :
    Calls P f args (w.drewN n) fun e w'' => e = .returned v ∧ ∃ m, w'' = w.drewN m := h.mono fun _ _ ⟨he, hm⟩ => ⟨he, n, hm.symm⟩
theorem own_ps {w : World} {base n : Nat} {v : Value} {zs : List Int} (h : w.ownsRow base 5 1 v n (cellsOf zs)) : ∃ s : Ps, v = .slice s.A n s.2 ∧ w.ownsRow 0 5 1 (.slice s.A n s.2) n (cellsOf zs) ∧ ∀ r, s.1 = some r → base ≤ r ∧ r < w.heap.size := by
  rcases h.2 with ⟨hv, h0⟩ | ⟨q, cap, cur, hv, hb, hh, rest⟩
  · refine ⟨(none, 0), by rw [hv, h0]; rfl, ⟨h.1, .inl ⟨by rw [h0]; rfl, h0⟩⟩, fun r hr => (by cases hr)⟩
  · refine ⟨(some q, cap), hv, ⟨h.1, .inr ⟨q, cap, cur, rfl, Nat.zero_le _, hh, rest⟩⟩, fun r hr => ?_⟩
    injection hr with hr
    rw [← hr]
    exact ⟨hb, (Array.getElem?_eq_some_iff.1 hh).1⟩
section
variable {S : Nat → Prop} {w : World} {g : Nat} {R : List (Fl × Ps)} {A : Option Addr} {c : Nat} {d : DS} {nm : ByteArray} {B : Option Addr} {n cb : Nat} {zs : List Int}
theorem Chr.behind (h : Rp S w g R A c d) (hok : DOk d) (x : Int) {w' : World} (hb : Below w.heap.size w w') : Chr S w g x d (.returned (.int .i64 x)) w' := ⟨rfl, S, (h.below hb).rk hok, ⟨Turn.of_below hb, fun _ hk => .inl hk⟩⟩
set_option maxHeartbeats 1000000 in
theorem rapp_off (h : Rp S w g R A c d) (hok : DOk d) (ho : d.off = true) :
    Calls Try.prog 33 #[.pointer (some ⟨g, 0, none⟩), .string nm, .slice B n cb] w (Chr S w g 10 d) := by
  have c3 : w.cell? ⟨g, 3, none⟩ = some (.bool true) := by rw [← ho]; exact h.row.cell 3
  have H := hide (Chr.same (h.rk hok) 10)
  clear h hok ho
  go_enter Try.func33, Try.ntmps33
  go_wp2
  go_ret
  exact H.out
set_option maxHeartbeats 1000000 in
theorem rapp_path (h : Rp S w g R A c d) (hok : DOk d) (ho : d.off = false) (hs : nm.size ≤ 140737488351232) (hn : nameB nm = false) :
    Calls Try.prog 33 #[.pointer (some ⟨g, 0, none⟩), .string nm, .slice B n cb] w (Chr S w g 11 d) := by
  have c3 : w.cell? ⟨g, 3, none⟩ = some (.bool false) := by rw [← ho]; exact h.row.cell 3
  have H := hide (Chr.same (h.rk hok) 11)
  have hN := hide (hn ▸ rname_any nm w hs)
  clear h hok ho hn
  go_enter Try.func33, Try.ntmps33
  go_wp2_with (go_at_call 46; (with_reducible refine hN.out.mono ?_); rintro e w' ⟨rfl, rfl⟩)
  go_ret
  exact H.out
theorem below_drewN (w : World) (m : Nat) : Below w.heap.size w (w.drewN m) := ⟨rfl, rfl, rfl, Nat.le_refl _, fun _ _ => rfl⟩
set_option maxRecDepth 100000 in
set_option maxHeartbeats 1000000 in
theorem rapp_full (h : Rp S w g R A c d) (hok : DOk d) (hln : d.l.length ≤ 1000000) (hnb : n ≤ 1000000) (ho : d.off = false) (hn : nameB nm = true) (hf : d.q < total d.l + n) :
    Calls Try.prog 33 #[.pointer (some ⟨g, 0, none⟩), .string nm, .slice B n cb] w (Chr S w g 7 d) := by
  have c3 : w.cell? ⟨g, 3, none⟩ = some (.bool false) := by rw [← ho]; exact h.row.cell 3
  have c1 : w.cell? ⟨g, 1, none⟩ = some (.int .i64 d.q) := h.row.cell 1
  have H := hide (fun w' (hb : Below w.heap.size w w') => Chr.behind h hok 7 hb)
  have hs := (name_size hn).2
  have hN := hide (hn ▸ rname_any nm w (by omega))
  have HT := hide (fun w' (hb : Below w.heap.size w w') => rtotal_any (h.below hb) hok hln)
  have ht : (total d.l : Int) ≤ 1048576 := by have := hok.tot; have := hok.q; omega
  have hw1 : IntKind.i64.wrap ((total d.l : Int) + (n : Int)) = (total d.l : Int) + n := by rw [IntKind.wrap_i64]; omega
  clear h hok ho hn
  go_enter Try.func33, Try.ntmps33
  go_upto_region 5 with (go_at_call 46; (with_reducible refine hN.out.mono ?_); rintro e w' ⟨rfl, rfl⟩)
  go_quiet ((go_at_call 42; exact quiet_l (HT.out _ (below_drewN _ _))))
  go_wp2
  go_ret
  exact H.out _ (below_drewN _ _)
end
end Go.Proofs.Ytllgjbkmemheoaa
/- Append of the document's disk, as far as it is done. Conditions: the slice has room, what is appended lies apart. -/
namespace Go.Proofs.Ytllgjbkmemheoaa
open Go.RowKit Go.Maps
section
variable {S : Nat → Prop} {w : World} {g : Nat} {R : List (Fl × Ps)} {A : Option Addr} {c : Nat} {d : DS} {nm : ByteArray} {B : Option Addr} {n cb : Nat} {zs : List Int}
set_option maxRecDepth 100000 in
set_option maxHeartbeats 1000000 in
theorem rapp_down (h : Rp S w g R A c d) (hok : DOk d) (hln : d.l.length ≤ 1000000) (hnb : n ≤ 1000000) (ho : d.off = false) (hn : nameB nm = true) (hf : total d.l + n ≤ d.q) (h0 : d.left = 0) :
    Calls Try.prog 33 #[.pointer (some ⟨g, 0, none⟩), .string nm, .slice B n cb] w (Chr S w g 10 d.spent) := by
  have c3 : w.cell? ⟨g, 3, none⟩ = some (.bool false) := by rw [← ho]; exact h.row.cell 3
  have c1 : w.cell? ⟨g, 1, none⟩ = some (.int .i64 d.q) := h.row.cell 1
  have hs := (name_size hn).2
  have hN := hide (hn ▸ rname_any nm w (by omega))
  have HT := hide (fun w' (hb : Below w.heap.size w w') => rtotal_any (h.below hb) hok hln)
  have ht : (total d.l : Int) ≤ 1048576 := by have := hok.tot; have := hok.q; omega
  have hw1 : IntKind.i64.wrap ((total d.l : Int) + (n : Int)) = (total d.l : Int) + n := by rw [IntKind.wrap_i64]; omega
  have hle : ¬ d.q < (total d.l : Int) + n := by omega
  have hsp : d.spends = false := by unfold DS.spends; rw [h0]; rfl
  have HP := hide (fun w' (hb : Below w.heap.size w w') => hsp ▸ power_any (h.below hb) hok)
  have H := hide (show ∀ w1 w', Below w.heap.size w w1 → Rp S w' g R A c d.spent → w1.grownBy w' (some g) → Chr S w g 10 d.spent (.returned (.int .i64 10)) w' from fun w1 w' hb h1 h2 => ⟨rfl, S, h1.rk (dok_spent hok), ⟨(Turn.of_below hb).trans (Own.grown h.sg h2).turn (fun k hk => .inl hk), fun _ hk => .inl hk⟩⟩)
  clear h hok ho hn hsp h0
  go_enter Try.func33, Try.ntmps33
  go_upto_region 5 with (go_at_call 46; (with_reducible refine hN.out.mono ?_); rintro e w' ⟨rfl, rfl⟩)
  go_quiet ((go_at_call 42; exact quiet_l (HT.out _ (below_drewN _ _))))
  go_wp2_with (go_at_call 47; (with_reducible refine (HP.out _ (below_drewN _ _)).mono ?_); rintro e w1 ⟨rfl, hR, hG⟩)
  go_ret
  exact H.out _ _ (below_drewN _ _) hR hG
/-- The last region's beginning: the file is there. -/
structure Apq (S0 : Nat → Prop) (w0 : World) (d1 : DS) (w : World) (g : Nat) (B : Option Addr) (zs : List Int) (k b off nl c n0 : Nat) (s : Ps) (f : Fl) : Prop where
  c0 : w.cell? ⟨g, 0, none⟩ = some (.slice (some ⟨b, off, none⟩) nl c)
  c1 : w.cell? ⟨b, off + k * 3 + 1, none⟩ = some (.slice s.A n0 s.2)
  f1 : w.frozen? ⟨b, off + k * 3 + 1, none⟩ = false
  hk : k < nl
  hb : b < w.heap.size
  hg : g < w.heap.size
  old : Lies w s.A f.dt
  nil : s.A = none → s.2 = 0
  add : Lies w B zs
  len : f.dt.length = n0
  le : n0 ≤ 1048576
  fin : ∀ w' v, Below w.heap.size w w' → w'.ownsRow w.heap.size 5 1 v (n0 + zs.length) (cellsOf (f.dt ++ zs)) → Chr S0 w0 g 0 d1 (.returned (.int .i64 0)) (w'.setCell ⟨b, off + k * 3 + 1, none⟩ v)
theorem frozen_below {w w' : World} {a : Addr} (h : w.frozen? a = false) (hb : Below w.heap.size w w') (hl : a.block < w.heap.size) : w'.frozen? a = false := by
  unfold World.frozen? at h ⊢
  rw [hb.block _ hl]; exact h
section
variable {S0 : Nat → Prop} {w0 : World} {d1 : DS} {k b off nl c n0 : Nat} {s : Ps} {f : Fl} {w' : World}
theorem Apq.two (h : Apq S0 w0 d1 w g B zs k b off nl c n0 s f) (hb : Below w.heap.size w w') : w'.cell? ⟨g, 0, none⟩ = some (.slice (some ⟨b, off, none⟩) nl c) ∧ w'.cell? ⟨b, off + k * 3 + 1, none⟩ = some (.slice s.A n0 s.2) :=
  ⟨(hb.cell (p := ⟨g, 0, none⟩) h.hg).trans h.c0, (hb.cell (p := ⟨b, off + k * 3 + 1, none⟩) h.hb).trans h.c1⟩
theorem Apq.drew (h : Apq S0 w0 d1 w g B zs k b off nl c n0 s f) : Apq S0 w0 d1 w.drew g B zs k b off nl c n0 s f :=
  ⟨h.c0, h.c1, h.f1, h.hk, h.hb, h.hg, h.old.below (below_drew w), h.nil, h.add.below (below_drew w), h.len, h.le, fun w' v hb ho => h.fin w' v ⟨hb.os, hb.tape, hb.output, hb.size, hb.block⟩ ho⟩
end
/-- The file's bytes anew, behind place. -/
theorem Rp.apq {S2 S3 : Nat → Prop} {w3 : World} {R3 : List (Fl × Ps)} {A3 : Option Addr} {c3 : Nat} (hok : DOk d) (h : Rp S3 w3 g R3 A3 c3 { d.spent with l := plcL nm d.l }) (ho : Own S2 w S3 w3) {k : Nat} {f : Fl} (hk : (plcL nm d.l)[k]? = some f) (hf : f.nm = nm)
    (hn : nameB nm = true) (hz : Octets zs) (htot : total d.l + zs.length ≤ d.q) (hB : Lies w3 B zs) :
    ∃ b off s, A3 = some ⟨b, off, none⟩ ∧ Apq S2 w { d.spent with l := putF ⟨nm, datO (find nm d.l) ++ zs, kepO (find nm d.l)⟩ d.l } w3 g B zs k b off (plcL nm d.l).length c3 f.dt.length s f := by
  obtain ⟨b, off, s, rfl, hs, hkl, _⟩ := h.at_ hk
  have hup := plc_up (nm := nm) hok.up
  have hff : f = ⟨nm, datO (find nm d.l), kepO (find nm d.l)⟩ := by
    have h1 := find_at hup hk
    rw [hf, plc_find hok.up] at h1
    exact (Option.some.inj h1).symm
  have hdt : f.dt = datO (find nm d.l) := by rw [hff]
  have hle : f.dt.length ≤ total d.l ∧ Octets (datO (find nm d.l)) ∧ kepO (find nm d.l) ≤ (datO (find nm d.l)).length := by
    rw [hdt]
    cases hfd : find nm d.l with
    | none => exact ⟨Nat.zero_le _, fun z hz => (by cases hz), Nat.le_refl _⟩
    | some x =>
      obtain ⟨hm, _⟩ := find_mem hfd
      have := total_delF nm d.l hok.up
      rw [hfd] at this
      simp only [lenO] at this
      exact ⟨by show x.dt.length ≤ _; omega, hok.oct x hm, hok.kp x hm⟩
  obtain ⟨q0, q1, _, z1, _⟩ := h.look hs
  have hm := List.mem_of_getElem? hs
  have hd := h.dat (f, s) hm
  have hq := hok.q
  refine ⟨b, off, s, rfl, q0, q1, z1, hkl, h.lt _ (h.sA _ rfl), h.row.lt, Lies.of_own hd, fun e => ?_, hB, rfl, by omega, fun w' v hb hv => ?_⟩
  · rcases hd.2 with ⟨hv, _⟩ | ⟨q, cap, cur, hv, _⟩
    · injection hv
    · injection hv with h1; simp only at h1; rw [e] at h1; cases h1
  · obtain ⟨s', rfl, ho', hs'⟩ := own_ps hv
    have hlen : (f.dt ++ zs).length = f.dt.length + zs.length := List.length_append
    obtain ⟨⟨h2, hT⟩, _⟩ := h.store hb (i := 1) (u := .slice s'.A (f.dt.length + zs.length) s'.2) (y := (⟨f.nm, f.dt ++ zs, f.kp⟩, s')) rfl hs (by omega) (by show _ = cell3 _; unfold cell3; simp only [hlen]; rfl) (by simp only [hlen]; exact ho') (fun r hr => .inr (hs' r hr))
    have hok2 : DOk { d.spent with l := putF ⟨nm, datO (find nm d.l) ++ zs, kepO (find nm d.l)⟩ d.l } := by
      have := dok_put (dok_spent hok) ⟨nm, datO (find nm d.l) ++ zs, kepO (find nm d.l)⟩ (by have := hle.2.2; simp only [List.length_append]; omega) hn (fun z hz' => (List.mem_append.1 hz').elim (hle.2.1 z) (hz z)) (by
        rw [spent_l, spent_q]; simp only [List.length_append]
        have : (datO (find nm d.l)).length = lenO (find nm d.l) := by cases find nm d.l <;> rfl
        omega)
      rw [spent_l] at this; exact this
    simp only at h2
    rw [show (plcL nm d.l).set k (⟨f.nm, f.dt ++ zs, f.kp⟩ : Fl) = putF ⟨nm, datO (find nm d.l) ++ zs, kepO (find nm d.l)⟩ d.l from by
      rw [← putF_set (f := f) (f' := ⟨f.nm, f.dt ++ zs, f.kp⟩) rfl hup hk, hff]
      exact plc_put (f := ⟨nm, datO (find nm d.l) ++ zs, kepO (find nm d.l)⟩)] at h2
    exact ⟨rfl, _, h2.rk hok2, ho.trans (Own.more hT)⟩
end
end Go.Proofs.Ytllgjbkmemheoaa
