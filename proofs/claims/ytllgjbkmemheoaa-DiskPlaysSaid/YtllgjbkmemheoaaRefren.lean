/- Rename of the document's disk. Conditions: the slice has room. -/
import Derived.Test.YtllgjbkmemheoaaRefXY
namespace Go.Proofs.Ytllgjbkmemheoaa
open Go.RowKit Go.Maps
section
variable {S S3 S4 : Nat → Prop} {w w1 w2 w3 w4 : World} {g : Nat} {R R4 : List (Fl × Ps)} {A : Option Addr} {c c4 : Nat} {d e : DS} {nm tn : ByteArray} {l4 : List Fl}
theorem Rp.wider (h : Rp S w g R A c d) (T : Nat → Prop) (hT : ∀ k, T k → k < w.heap.size) : Rp (fun k => S k ∨ T k) w g R A c d :=
  ⟨fun k hk => hk.elim (h.lt k) (hT k), h.row, h.ls, h.own, h.dat, .inl h.sg, fun a ha => .inl (h.sA a ha), fun x hx r hr => .inl (h.sd x hx r hr)⟩
theorem dat_turned {s : Ps} {f : Fl} (h : Rp S w g R A c d) (hs : (f, s) ∈ R) (hT : Turn (fun k => k = g) w w4) : w4.ownsRow 0 5 1 (.slice s.A f.dt.length s.2) f.dt.length (cellsOf f.dt) := by
  have ho := h.dat _ hs
  refine own_same ho fun a ha => ?_
  rcases ho.2 with ⟨hv, _⟩ | ⟨q, cap, cur, hv, _, hh, _⟩
  · injection hv with hv; simp only at hv; rw [hv] at ha; cases ha
  · injection hv with hv; simp only at hv; rw [hv] at ha; injection ha with ha; rw [← ha]
    exact hT.block q (Array.getElem?_eq_some_iff.1 hh).1 (kind_ne hh h.row (by decide))
/-- A file's bytes and what is kept of them come to another place. -/
theorem Rp.ren {b off i : Nat} {f f4 : Fl} {s s4 : Ps} (h1 : Rp S w1 g R A c e) (hs : (f, s) ∈ R) (hb : Below w1.heap.size w1 w2) (hO3 : Own S w2 S3 w3) (hT3 : Turn (fun k => k = g) w2 w3)
    (h4 : Rp S4 w4 g R4 (some ⟨b, off, none⟩) c4 { e with l := l4 }) (hO4 : Own S3 w3 S4 w4) (hT4 : Turn (fun k => k = g) w3 w4) (hs4 : R4[i]? = some (f4, s4)) :
    ∃ S5 R5, Rp S5 ((w4.setCell ⟨b, off + i * 3 + 1, none⟩ (.slice s.A f.dt.length s.2)).setCell ⟨b, off + i * 3 + 2, none⟩ (.int .i64 f.kp)) g R5 (some ⟨b, off, none⟩) c4 { e with l := l4.set i ⟨f4.nm, f.dt, f.kp⟩ } ∧
      Own S w1 S5 ((w4.setCell ⟨b, off + i * 3 + 1, none⟩ (.slice s.A f.dt.length s.2)).setCell ⟨b, off + i * 3 + 2, none⟩ (.int .i64 f.kp)) := by
  have hT : Turn (fun k => k = g) w1 w4 := ((Turn.of_below hb).trans hT3 (fun k hk => .inl hk)).trans hT4 (fun k hk => .inl hk)
  have hO : Own S w1 S4 w4 := ⟨(Turn.of_below hb).trans (hO3.trans hO4).turn (fun k hk => .inl hk), fun k hk => ((hO3.trans hO4).new k hk).imp id (Nat.le_trans hb.size)⟩
  have hd := dat_turned h1 hs hT
  have hsz : ∀ r, s.1 = some r → S r ∧ r < w4.heap.size := fun r hr => by
    have := h1.sd _ hs r hr
    exact ⟨this, Nat.lt_of_lt_of_le (h1.lt r this) hT.size⟩
  have h5 := h4.wider (fun k => s.1 = some k) (fun k hk => (hsz k hk).2)
  have hO5 : Own S w1 (fun k => S4 k ∨ s.1 = some k) w4 := ⟨hO.turn, fun k hk => hk.elim (hO.new k) fun e => .inl (hsz k e).1⟩
  have hiR : i < R4.length := (List.getElem?_eq_some_iff.1 hs4).1
  obtain ⟨⟨h6, hT6⟩, _⟩ := h5.store (Below.refl _ _) (i := 1) (u := .slice s.A f.dt.length s.2) (y := (⟨f4.nm, f.dt, f4.kp⟩, s)) rfl hs4 (by omega) rfl hd (fun r hr => .inl (.inr hr))
  obtain ⟨S7, h7, hO7⟩ := h6.keeps (k := i) (f := ⟨f4.nm, f.dt, f4.kp⟩) (s := s) (by rw [List.getElem?_set_self hiR]) f.kp
  simp only [List.set_set] at h7
  exact ⟨S7, _, h7, (hO5.trans (Own.more hT6)).trans hO7⟩
set_option maxRecDepth 100000 in
set_option maxHeartbeats 1000000 in
theorem rren_off (h : Rp S w g R A c d) (hok : DOk d) (hln : d.l.length ≤ 1000000) (ho : d.off = true) :
    Calls Try.prog 37 #[.pointer (some ⟨g, 0, none⟩), .string nm, .string tn] w (Chr S w g 10 d) := by
  have c3 : w.cell? ⟨g, 3, none⟩ = some (.bool true) := by rw [← ho]; exact h.row.cell 3
  have HA := hide (at_any h nm hln)
  have H := hide (Chr.same (h.rk hok) 10)
  clear h hok ho
  go_enter Try.func37, Try.ntmps37
  go_wp2_with (go_at_call 49; (with_reducible refine HA.out.mono ?_); rintro e w' ⟨⟨v, rfl, hv⟩, rfl⟩)
  go_ret
  exact H.out
set_option maxRecDepth 100000 in
set_option maxHeartbeats 1000000 in
theorem rren_path (h : Rp S w g R A c d) (hok : DOk d) (hln : d.l.length ≤ 1000000) (ho : d.off = false) (hs : tn.size ≤ 140737488351232) (hn : nameB tn = false) :
    Calls Try.prog 37 #[.pointer (some ⟨g, 0, none⟩), .string nm, .string tn] w (Chr S w g 11 d) := by
  have c3 : w.cell? ⟨g, 3, none⟩ = some (.bool false) := by rw [← ho]; exact h.row.cell 3
  have HA := hide (at_any h nm hln)
  have hN := hide (hn ▸ rname_any tn w hs)
  have H := hide (Chr.same (h.rk hok) 11)
  clear h hok ho hn hs
  go_enter Try.func37, Try.ntmps37
  go_wp2_with (first | (go_at_call 49; (with_reducible refine HA.out.mono ?_); rintro e w' ⟨⟨v, rfl, hv⟩, rfl⟩) | (go_at_call 46; (with_reducible refine hN.out.mono ?_); rintro e w' ⟨rfl, rfl⟩))
  go_ret
  exact H.out
set_option maxRecDepth 100000 in
set_option maxHeartbeats 1000000 in
theorem rren_none (h : Rp S w g R A c d) (hok : DOk d) (hln : d.l.length ≤ 1000000) (ho : d.off = false) (hn : nameB tn = true) (hf : find nm d.l = none) :
    Calls Try.prog 37 #[.pointer (some ⟨g, 0, none⟩), .string nm, .string tn] w (Chr S w g 8 d) := by
  have c3 : w.cell? ⟨g, 3, none⟩ = some (.bool false) := by rw [← ho]; exact h.row.cell 3
  have HA := hide (at_no h hln hf)
  have hs := (name_size hn).2
  have hN := hide (hn ▸ rname_any tn w (by omega))
  have H := hide (Chr.same (h.rk hok) 8)
  clear h hok ho hn hf hs
  go_enter Try.func37, Try.ntmps37
  go_wp2_with (first | (go_at_call 49; (with_reducible refine HA.out.mono ?_); rintro e w' ⟨rfl, rfl⟩) | (go_at_call 46; (with_reducible refine hN.out.mono ?_); rintro e w' ⟨rfl, rfl⟩))
  go_ret
  exact H.out
set_option maxRecDepth 100000 in
set_option maxHeartbeats 1000000 in
theorem rren_down (h : Rp S w g R A c d) (hok : DOk d) (hln : d.l.length ≤ 1000000) (ho : d.off = false) (hn : nameB tn = true) {f : Fl} (hf : find nm d.l = some f) (h0 : d.left = 0) :
    Calls Try.prog 37 #[.pointer (some ⟨g, 0, none⟩), .string nm, .string tn] w (Chr S w g 10 d.spent) := by
  have c3 : w.cell? ⟨g, 3, none⟩ = some (.bool false) := by rw [← ho]; exact h.row.cell 3
  obtain ⟨k, hk, hn2⟩ := find_ix hf
  have HA := hide (at_yes h hok.up hln hk hn2)
  have hs := (name_size hn).2
  have hN := hide (hn ▸ rname_any tn w (by omega))
  have hsp : d.spends = false := by unfold DS.spends; rw [h0]; rfl
  have HP := hide (hsp ▸ power_any h hok)
  have H := hide (show ∀ w', Rp S w' g R A c d.spent → w.grownBy w' (some g) → Chr S w g 10 d.spent (.returned (.int .i64 10)) w' from fun w' h1 h2 => ⟨rfl, S, h1.rk (dok_spent hok), Own.grown h.sg h2⟩)
  clear h hok ho hf hk hs h0 hsp hn
  go_enter Try.func37, Try.ntmps37
  go_wp2_with (first | (go_at_call 49; (with_reducible refine HA.out.mono ?_); rintro e w' ⟨rfl, rfl⟩) | (go_at_call 46; (with_reducible refine hN.out.mono ?_); rintro e w' ⟨rfl, rfl⟩) | (go_at_call 47; (with_reducible refine HP.out.mono ?_); rintro e w1 ⟨rfl, hR, hG⟩))
  go_ret
  exact H.out _ hR hG
set_option maxRecDepth 100000 in
set_option maxHeartbeats 4000000 in
theorem rren_do (h : Rp S w g R A c d) (hok : DOk d) (hln : d.l.length ≤ 1000000) (ho : d.off = false) (hn : nameB tn = true) {f : Fl} (hf : find nm d.l = some f) (h0 : d.left ≠ 0) :
    Calls Try.prog 37 #[.pointer (some ⟨g, 0, none⟩), .string nm, .string tn] w (Chr S w g 0 { d.spent with l := putF ⟨tn, f.dt, f.kp⟩ (delF nm d.l) }) := by
  have c3 : w.cell? ⟨g, 3, none⟩ = some (.bool false) := by rw [← ho]; exact h.row.cell 3
  obtain ⟨k, hk, hn2⟩ := find_ix hf
  have HA := hide (at_yes h hok.up hln hk hn2)
  have hs := (name_size hn).2
  have hN := hide (hn ▸ rname_any tn w (by omega))
  have hsp : d.spends = true := by unfold DS.spends; simpa using h0
  have HP := hide (hsp ▸ power_any h hok)
  obtain ⟨b, off, s, rfl, hs2, hkl, _⟩ := h.at_ hk
  have hdel : d.l.take k ++ d.l.drop (k + 1) = delF nm d.l := by rw [← delF_at hok.up hk, hn2]
  have hup : Up (delF nm d.l) := up_delF hok.up
  have hlen : (delF nm d.l).length ≤ 1000000 := Nat.le_trans (List.length_filter_le _ _) hln
  have HF := hide (show ∀ w1, Rp S w1 g R (some ⟨b, off, none⟩) c d.spent → w1.cell? ⟨g, 0, none⟩ = some (.slice (some ⟨b, off, none⟩) d.l.length c) ∧ w1.cell? ⟨b, off + k * 3, none⟩ = some (.string nm) ∧ w1.cell? ⟨b, off + k * 3 + 1, none⟩ = some (.slice s.A f.dt.length s.2) ∧ w1.cell? ⟨b, off + k * 3 + 2, none⟩ = some (.int .i64 f.kp) from by
    intro w1 h1
    obtain ⟨b1, o1, s1, e1, hs1, _, n0, n1, n2⟩ := h1.at_ (k := k) (f := f) (by rw [spent_l]; exact hk)
    injection e1 with e1; injection e1 with e1 e2; subst e1 e2
    rw [hs2] at hs1; injection hs1 with hs1; injection hs1 with _ hs1; subst hs1
    have c0 := h1.c0
    rw [spent_l] at c0
    rw [hn2] at n0
    exact ⟨c0, n0, n1, n2⟩)
  have HOUT := hide (show ∀ w1 w2, Rp S w1 g R (some ⟨b, off, none⟩) c d.spent → Below w1.heap.size w1 w2 → Calls Try.prog 50 #[.pointer (some ⟨g, 0, none⟩), .int .i64 k] w2 fun e w' => e = .returned (.tuple #[]) ∧ ∃ S' R' A' c', Rp S' w' g R' A' c' { d.spent with l := delF nm d.l } ∧ Own S w2 S' w' ∧ Turn (fun k => k = g) w2 w' from by
    intro w1 w2 h1 hb
    have := out_any (h1.below hb) k (by rw [spent_l]; exact hkl) (by rw [spent_l]; exact hln)
    rw [spent_l, hdel] at this
    exact this)
  have HPL := hide (show ∀ S' w' R' A' c', Rp S' w' g R' A' c' { d.spent with l := delF nm d.l } → Calls Try.prog 48 #[.pointer (some ⟨g, 0, none⟩), .string tn] w' (Plc S' w' g tn { d.spent with l := delF nm d.l }) from fun S' w' R' A' c' h1 => place_any h1 hup tn hlen)
  have H := hide (show ∀ w1 w2 w3 w4 S3 S4 R4 A4 c4 i f4, Rp S w1 g R (some ⟨b, off, none⟩) c d.spent → w.grownBy w1 (some g) → Below w1.heap.size w1 w2 → Own S w2 S3 w3 → Turn (fun k => k = g) w2 w3 →
      Rp S4 w4 g R4 A4 c4 { d.spent with l := plcL tn (delF nm d.l) } → Own S3 w3 S4 w4 → Turn (fun k => k = g) w3 w4 → (plcL tn (delF nm d.l))[i]? = some f4 → f4.nm = tn →
      ∃ b4 o4 s4, A4 = some ⟨b4, o4, none⟩ ∧ (b4 < w1.heap.size ∨ w2.heap.size ≤ b4) ∧ Bpq w4 g i b4 o4 (plcL tn (delF nm d.l)).length c4 s4 f4 ∧ Chr S w g 0 { d.spent with l := putF ⟨tn, f.dt, f.kp⟩ (delF nm d.l) } (.returned (.int .i64 0)) ((w4.setCell ⟨b4, o4 + i * 3 + 1, none⟩ (.slice s.A f.dt.length s.2)).setCell ⟨b4, o4 + i * 3 + 2, none⟩ (.int .i64 f.kp)).drew from by
    intro w1 w2 w3 w4 S3 S4 R4 A4 c4 i f4 h1 hG hb hO3 hT3 h4 hO4 hT4 hi hf4
    obtain ⟨b4, o4, s4, rfl, hs4, _⟩ := h4.at_ hi
    refine ⟨b4, o4, s4, rfl, ?_, h4.bpq hs4, ?_⟩
    · rcases hO4.new b4 (h4.sA _ rfl) with z | z
      · rcases hO3.new b4 z with z | z
        · exact .inl (h1.lt _ z)
        · exact .inr z
      · exact .inr (Nat.le_trans hO3.turn.size z)
    obtain ⟨S5, R5, h5, hO5⟩ := Rp.ren h1 (List.mem_of_getElem? hs2) hb hO3 hT3 h4 hO4 hT4 hs4
    have hm := List.mem_of_getElem? hk
    have htot := total_delF nm d.l hok.up
    rw [hf] at htot
    simp only [lenO] at htot
    have hok1 : DOk { d.spent with l := delF nm d.l } := by have := dok_del (dok_spent hok) nm; rw [spent_l] at this; exact this
    have hok2 : DOk { d.spent with l := putF ⟨tn, f.dt, f.kp⟩ (delF nm d.l) } :=
      dok_put hok1 ⟨tn, f.dt, f.kp⟩ (hok.kp f hm) hn (hok.oct f hm) (by have := hok.tot; simp only; rw [spent_q]; omega)
    rw [show (plcL tn (delF nm d.l)).set i (⟨f4.nm, f.dt, f.kp⟩ : Fl) = putF ⟨tn, f.dt, f.kp⟩ (delF nm d.l) from by
      rw [← putF_set (f := f4) (f' := ⟨f4.nm, f.dt, f.kp⟩) rfl (plc_up hup) hi, hf4]
      exact plc_put (f := ⟨tn, f.dt, f.kp⟩)] at h5
    exact ⟨rfl, S5, (h5.below (below_drew _)).rk hok2, own_drewr ((Own.grown h.sg hG).trans hO5)⟩)
  have HGL := hide h.row.lt
  clear h hok ho hf hk hs h0 hsp hn hs2 hdel hup hlen hn2
  go_enter Try.func37, Try.ntmps37
  go_upto_region 11 with (first | (go_at_call 49; (with_reducible refine HA.out.mono ?_); rintro e w' ⟨rfl, rfl⟩) | (go_at_call 46; (with_reducible refine hN.out.mono ?_); rintro e w' ⟨rfl, rfl⟩) | (go_at_call 47; (with_reducible refine HP.out.mono ?_); rintro e w1 ⟨rfl, hR, hG⟩; have FF := hide (HF.out _ hR); have c0 := FF.out.1; have n0 := FF.out.2.1; have n1 := FF.out.2.2.1; have n2 := FF.out.2.2.2; clear FF))
  have HGE := hide (show w1.heap.size ≠ g from fun e => by have := HGL.out; have := hG.size; omega)
  have HBX := hide (kept_alloc (kept_refl w1) (.cells #[.string nm, .slice s.A f.dt.length s.2, .int .i64 f.kp] 78))
  have RBX := hide (Row.new w1 78 #[.string nm, .slice s.A f.dt.length s.2, .int .i64 f.kp])
  generalize World.alloc w1 _ = w2 at HBX RBX ⊢
  have HB2 := hide (show Below w1.heap.size w1 w2 from HBX.out)
  clear HBX
  have HHO := hide (HOUT.out w1 w2 hR HB2.out)
  have HHR := hide (fun w3 w4 S3 S4 R4 A4 c4 i f4 => H.out w1 w2 w3 w4 S3 S4 R4 A4 c4 i f4 hR hG HB2.out)
  clear HOUT H hR hG c0 n0 n1 n2 HB2 HF HP HA hN c3
  generalize w1.heap.size = gb at *
  go_upto_region 13 with (first
    | (go_at_call 50; (with_reducible refine HHO.out.mono ?_); rintro e w3 ⟨rfl, S3, R3, A3, c3', hR3, hO3, hT3⟩)
    | (go_at_call 48; (with_reducible refine (HPL.out _ _ _ _ _ hR3).mono ?_); rintro e w4 ⟨i, f4, S4, R4, A4, c4, rfl, hR4, ⟨hO4, hT4⟩, hi4, hf4⟩))
  obtain ⟨b4, o4, s4, rfl, hne, hB, HC⟩ := HHR.out _ _ _ _ _ _ _ _ _ hO3 hT3 hR4 hO4 hT4 hi4 hf4
  have rb : Row w4 gb 78 #[.string nm, .slice s.A f.dt.length s.2, .int .i64 f.kp] := by
    have l2 := RBX.out.lt
    exact ((hT4.block gb (Nat.lt_of_lt_of_le l2 hT3.size) HGE.out).trans (hT3.block gb l2 HGE.out)).trans RBX.out
  have hgb : gb ≠ b4 := by have := RBX.out.lt; omega
  have x1 : w4.cell? ⟨gb, 1, none⟩ = some (.slice s.A f.dt.length s.2) := rb.cell 1
  have x2 : w4.cell? ⟨gb, 2, none⟩ = some (.int .i64 f.kp) := rb.cell 2
  have q0 := hB.c0
  have q1 := hB.c1
  have q2 := hB.c2
  have z1 := hB.f1
  have z2 := hB.f2
  have hkn := hB.hk
  have HH := hide HC
  clear hB HC rb hO3 hT3 hR4 hO4 hT4 hi4 hf4 hR3 HHR HHO HPL RBX HGE
  go_region
  go_wp2
  go_ret
  exact HH.out
theorem rren_any (h : Rp S w g R A c d) (hok : DOk d) (hln : d.l.length ≤ 1000000) (hs : tn.size ≤ 140737488351232) :
    Calls Try.prog 37 #[.pointer (some ⟨g, 0, none⟩), .string nm, .string tn] w (Chr S w g (renE d nm tn) (renS d nm tn)) := by
  unfold renE renS
  cases ho : d.off with
  | true => rw [if_pos rfl, if_pos rfl]; exact rren_off h hok hln ho
  | false =>
    rw [if_neg Bool.false_ne_true, if_neg Bool.false_ne_true]
    cases hn : nameB tn with
    | false => rw [if_pos rfl, if_pos rfl]; exact rren_path h hok hln ho hs hn
    | true =>
      rw [if_neg (show ¬ true = false by decide), if_neg (show ¬ true = false by decide)]
      cases hf : find nm d.l with
      | none => exact rren_none h hok hln ho hn hf
      | some f =>
        simp only [Option.isNone_some, Bool.false_eq_true, if_false]
        by_cases h0 : d.left = 0
        · rw [if_pos h0, if_pos h0]; exact rren_down h hok hln ho hn hf h0
        · rw [if_neg h0, if_neg h0]; exact rren_do h hok hln ho hn hf h0
end
end Go.Proofs.Ytllgjbkmemheoaa
