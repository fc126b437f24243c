/- Append of the program's disk: its walks. Conditions: what is appended lies apart from the disk, lengths have room. -/
import Derived.Test.YtllgjbkmemheoaaApp
namespace Go.Proofs.Ytllgjbkmemheoaa
open Go.RowKit Go.Maps
section
variable {S : Nat → Prop} {w : World} {g : Nat} {d : DS} {nm : ByteArray} {A : Option Addr} {n c : Nat} {zs : List Int}
set_option maxHeartbeats 1000000 in
theorem app_off (h : Dk S w g d) (ho : d.off = true) :
    Calls Try.prog 11 #[.pointer (some ⟨g, 0, none⟩), .string nm, .slice A n c] w (Chg S w g 10 d) := by
  have H := hide (Chg.same h 10)
  obtain ⟨b, lf, loc, h⟩ := h
  have c3 : w.cell? ⟨g, 3, none⟩ = some (.bool true) := by rw [h.row.cell 3, ho]; rfl
  clear h ho
  go_enter Try.func11, Try.ntmps11
  go_wp2
  go_ret
  exact H.out
set_option maxHeartbeats 1000000 in
theorem app_path (h : Dk S w g d) (hs : nm.size ≤ 140737488351232) (ho : d.off = false) (hn : nameB nm = false) :
    Calls Try.prog 11 #[.pointer (some ⟨g, 0, none⟩), .string nm, .slice A n c] w (Chg S w g 11 d) := by
  have H := hide (Chg.same h 11)
  have hN := hide (hn ▸ mayBe_any nm w hs)
  obtain ⟨b, lf, loc, h⟩ := h
  have c3 : w.cell? ⟨g, 3, none⟩ = some (.bool false) := by rw [h.row.cell 3, ho]; rfl
  clear h ho hn
  go_enter Try.func11, Try.ntmps11
  go_wp2_with (go_at_call 29; (with_reducible refine hN.out.mono ?_); rintro e w' ⟨rfl, rfl⟩)
  go_ret
  exact H.out
set_option maxHeartbeats 1000000 in
theorem app_full (h : Dk S w g d) (ho : d.off = false) (hn : nameB nm = true) (hf : d.q < total d.l + n) :
    Calls Try.prog 11 #[.pointer (some ⟨g, 0, none⟩), .string nm, .slice A n c] w (Chg S w g 7 d) := by
  have H := hide (fun w' (hb : Below w.heap.size w w') => (Chg.same (h.below hb) 7).of_below hb)
  have hs := (name_size hn).2
  have hN := hide (hn ▸ mayBe_any nm w (by omega))
  have hR := hide (room_any g d w h)
  have hq := h.ok.q
  have ht := h.ok.tot
  obtain ⟨b, lf, loc, h⟩ := h
  have c3 : w.cell? ⟨g, 3, none⟩ = some (.bool false) := by rw [h.row.cell 3, ho]; rfl
  have hgt : d.q - (total d.l : Int) < n := by omega
  clear h ho hn
  go_enter Try.func11, Try.ntmps11
  go_wp2_with (first
    | (go_at_call 29; (with_reducible refine hN.out.mono ?_); rintro e w' ⟨rfl, rfl⟩)
    | (go_at_call 25; (with_reducible refine hR.out.mono ?_); rintro e w' ⟨rfl, hb⟩))
  go_ret
  exact H.out _ hb
/-- .. as far as the changes that are left. -/
theorem Chg.spent {w1 w2 : World} (h : Dk S w2 g d.spent) (hg : w1.grownBy w2 (some g)) (hS : S g) (hb : Below w.heap.size w w1) (x : Int) : Chg S w g x d.spent (.returned (.int .i64 x)) w2 :=
  Chg.of_below hb ⟨rfl, S, h, ⟨Turn.of_grown hg (fun k e => by injection e with e; rw [← e]; exact hS), fun _ hk => .inl hk⟩⟩
set_option maxHeartbeats 1000000 in
theorem app_down (h : Dk S w g d) (ho : d.off = false) (hn : nameB nm = true) (hf : total d.l + n ≤ d.q) (hl : d.left = 0) :
    Calls Try.prog 11 #[.pointer (some ⟨g, 0, none⟩), .string nm, .slice A n c] w (Chg S w g 10 d.spent) := by
  have hs := (name_size hn).2
  have hN := hide (hn ▸ mayBe_any nm w (by omega))
  have hR := hide (room_any g d w h)
  have hq := h.ok.q
  have ht := h.ok.tot
  have hsp : d.spends = false := by unfold DS.spends; rw [hl]; rfl
  have hP := hide (fun w1 (hb : Below w.heap.size w w1) => hsp ▸ spend_any g d w1 (h.below hb))
  obtain ⟨b, lf, loc, h⟩ := h
  have H := hide (fun w1 w2 (hb : Below w.heap.size w w1) (k : Dk S w2 g d.spent) (hg : w1.grownBy w2 (some g)) => Chg.spent (w := w) k hg h.sg hb 10)
  have c3 : w.cell? ⟨g, 3, none⟩ = some (.bool false) := by rw [h.row.cell 3, ho]; rfl
  have hgt : (n : Int) ≤ d.q - (total d.l : Int) := by omega
  clear h ho hn hsp hl
  go_enter Try.func11, Try.ntmps11
  go_wp2_with (first
    | (go_at_call 29; (with_reducible refine hN.out.mono ?_); rintro e w' ⟨rfl, rfl⟩)
    | (go_at_call 25; (with_reducible refine hR.out.mono ?_); rintro e w1 ⟨rfl, hb⟩)
    | (go_at_call 30; (with_reducible refine (hP.out _ hb).mono ?_); rintro e w2 ⟨rfl, hD, hg⟩))
  go_ret
  exact H.out _ _ hb hD hg
/-- What goes on in the last region: the file is there. -/
structure AppR (S : Nat → Prop) (w w3 : World) (S3 : Nat → Prop) (g : Nat) (d : DS) (f : Fl) (p : Nat) (B : Option Addr) (cb : Nat) (A : Option Addr) (n c : Nat) (zs : List Int) : Prop where
  cell : w3.cell? ⟨p, 0, none⟩ = some (.slice B f.dt.length cb)
  run : ∀ ty, ∃ v' w', (Builtin.append_ #[27, 27] ty #[.slice B f.dt.length cb, .slice A n c]).run Try.prog w3 = .ok v' w' ∧
      ((∃ A' c', v' = .slice A' (f.dt.length + n) c') ∧ (w'.cell? ⟨p, 0, none⟩ = some (.slice B f.dt.length cb) ∧ w'.frozen? ⟨p, 0, none⟩ = false) ∧ Chg S w g 0 { d.spent with l := putF ⟨f.nm, f.dt ++ zs, f.kp⟩ d.l } (.returned (.int .i64 0)) (w'.setCell ⟨p, 0, none⟩ v'))
set_option maxRecDepth 100000 in
set_option maxHeartbeats 1000000 in
theorem app_old (h : Dk S w g d) (ho : d.off = false) (hn : nameB nm = true) (hm : zs.length = n) (hc : A = none → c = 0) (hl : Lies w A zs) (hout : Out S A zs) (hz : Octets zs) (hf : total d.l + n ≤ d.q) (h0 : d.left ≠ 0) {f : Fl} (hfd : find nm d.l = some f) :
    Calls Try.prog 11 #[.pointer (some ⟨g, 0, none⟩), .string nm, .slice A n c] w (Chg S w g 0 { d.spent with l := putF ⟨nm, f.dt ++ zs, f.kp⟩ d.l }) := by
  have hs := (name_size hn).2
  have hN := hide (hn ▸ mayBe_any nm w (by omega))
  have hR := hide (room_any g d w h)
  have hq := h.ok.q
  have ht := h.ok.tot
  have hsp : d.spends = true := by unfold DS.spends; simpa using h0
  have hP := hide (fun w1 (hb : Below w.heap.size w w1) => hsp ▸ spend_any g d w1 (h.below hb))
  have hgt : (n : Int) ≤ d.q - (total d.l : Int) := by omega
  obtain ⟨hfm, rfl⟩ := find_mem hfd
  obtain ⟨b, lf, loc, h⟩ := h
  have H := hide (show ∀ w1 w2, Below w.heap.size w w1 → Dk S w2 g d.spent → w1.grownBy w2 (some g) → ∃ b p B cb, w2.cell? ⟨g, 1, none⟩ = some (.map (some b)) ∧
      (Instr.lookup 57 (.map (some b)) (.string f.nm) false).run Try.prog w2 = .ok (.pointer (some ⟨p, 0, none⟩)) w2 ∧ AppR S w w2 S g d f p B cb A n c zs from by
    intro w1 w2 hb hD hg
    obtain ⟨b2, lf2, loc2, h2⟩ := hD
    have hT : Turn S w w2 := (Turn.of_below hb).trans (Turn.of_grown (S := S) hg (fun k e => by injection e with e; rw [← e]; exact h.sg)) (fun k hk => .inl hk)
    have hl2 : f ∈ d.spent.l := by rw [spent_l]; exact hfm
    refine ⟨b2, (loc2 f.nm).p, (loc2 f.nm).A, (loc2 f.nm).c, h2.row.cell 1, ?_, (h2.files.one f hl2).head.cell 0, fun ty => ?_⟩
    · have := h2.map.look f.nm (by unfold maxLen; omega)
      unfold ptrO at this
      rw [find_of_mem h2.ok.up hl2] at this
      exact this
    · obtain ⟨v', w', hr, hsl, hrow, hD', hT'⟩ := h2.append hl2 hm hc (hl.turn hT hout) hz (by rw [spent_l, spent_q]; omega) ty
      rw [spent_l] at hD'
      exact ⟨v', w', hr, hsl, hrow, rfl, _, hD', ⟨hT.trans hT' (fun k hk => .inl hk), fun k hk => hk.imp id fun e => Nat.le_trans hT.size e.1⟩⟩)
  have c3 : w.cell? ⟨g, 3, none⟩ = some (.bool false) := by rw [h.row.cell 3, ho]; rfl
  subst hm
  clear h ho hn hsp h0 hfm hfd hl hz hout hc
  go_enter Try.func11, Try.ntmps11
  go_upto_region 9 with (first
    | (go_at_call 29; (with_reducible refine hN.out.mono ?_); rintro e w' ⟨rfl, rfl⟩)
    | (go_at_call 25; (with_reducible refine hR.out.mono ?_); rintro e w1 ⟨rfl, hb⟩)
    | (go_at_call 30; (with_reducible refine (hP.out _ hb).mono ?_); rintro e w2 ⟨rfl, hD, hg⟩))
  obtain ⟨b2, p, B, cb, d1, hlk, hA⟩ := H.out w1 w2 hb hD hg
  have p0 := hA.cell
  have hrun := hide hA.run
  clear hb hD hg H hN hR hP c3 hA
  go_wp2_with (at_builtin; refine wpList_append_full rfl _ _ 27 rfl _ _ _ _ rfl rfl _ hrun.out ?_; intro v' w' hX; obtain ⟨⟨A', c', rfl⟩, ⟨q0, f0⟩, hC⟩ := hX; clear hrun p0)
  go_ret
  exact hC
set_option maxRecDepth 100000 in
set_option maxHeartbeats 1000000 in
theorem app_new (h : Dk S w g d) (ho : d.off = false) (hn : nameB nm = true) (hm : zs.length = n) (hc : A = none → c = 0) (hl : Lies w A zs) (hout : Out S A zs) (hz : Octets zs) (hf : total d.l + n ≤ d.q) (h0 : d.left ≠ 0) (hfd : find nm d.l = none) (hln : d.l.length < 9000000000) :
    Calls Try.prog 11 #[.pointer (some ⟨g, 0, none⟩), .string nm, .slice A n c] w (Chg S w g 0 { d.spent with l := putF ⟨nm, zs, 0⟩ d.l }) := by
  have hs := (name_size hn).2
  have hN := hide (hn ▸ mayBe_any nm w (by omega))
  have hR := hide (room_any g d w h)
  have hq := h.ok.q
  have ht := h.ok.tot
  have hsp : d.spends = true := by unfold DS.spends; simpa using h0
  have hP := hide (fun w1 (hb : Below w.heap.size w w1) => hsp ▸ spend_any g d w1 (h.below hb))
  have hgt : (n : Int) ≤ d.q - (total d.l : Int) := by omega
  obtain ⟨b, lf, loc, h⟩ := h
  have H := hide (show ∀ w1 w2, Below w.heap.size w w1 → Dk S w2 g d.spent → w1.grownBy w2 (some g) → ∃ b, w2.cell? ⟨g, 1, none⟩ = some (.map (some b)) ∧
      (Instr.lookup 57 (.map (some b)) (.string nm) false).run Try.prog w2 = .ok (.pointer none) w2 ∧
      (w2.alloc (.cells #[.slice none 0 0, .int .i64 0] 62)).cell? ⟨g, 1, none⟩ = some (.map (some b)) ∧
      ∃ w3, (Instr.mapUpdate 57 (.map (some b)) (.string nm) (.pointer (some ⟨w2.heap.size, 0, none⟩))).run Try.prog (w2.alloc (.cells #[.slice none 0 0, .int .i64 0] 62)) = .ok () w3 ∧
      ∃ S3, AppR S w w3 S3 g d ⟨nm, [], 0⟩ w2.heap.size none 0 A n c zs from by
    intro w1 w2 hb hD hg
    obtain ⟨b2, lf2, loc2, h2⟩ := hD
    have hT : Turn S w w2 := (Turn.of_below hb).trans (Turn.of_grown (S := S) hg (fun k e => by injection e with e; rw [← e]; exact h.sg)) (fun k hk => .inl hk)
    obtain ⟨w3, hr3, h3, hT3⟩ := h2.create nm hn (by rw [spent_l]; exact hln)
    have hT13 : Turn S w w3 := hT.trans hT3 (fun k hk => .inl hk)
    have hm3 : (⟨nm, [], 0⟩ : Fl) ∈ putF ⟨nm, [], 0⟩ d.spent.l := (mem_putF h2.ok.up).2 (.inl rfl)
    have e2 : Go.Proofs.Ytllgjbkmemheoaa.upd loc2 nm ⟨w2.heap.size, none, 0⟩ nm = ⟨w2.heap.size, none, 0⟩ := upd_self ..
    refine ⟨b2, h2.row.cell 1, ?_, (h2.row.alloc _).cell 1, w3, hr3, More S w2 (w2.alloc (.cells #[.slice none 0 0, .int .i64 0] 62)), ?_, fun ty => ?_⟩
    · have := h2.map.look nm (by unfold maxLen; omega)
      unfold ptrO at this
      rw [spent_l, hfd] at this
      exact this
    · have := (h3.files.one _ hm3).head.cell 0
      simp only [e2] at this
      exact this
    · have htot : total (putF ⟨nm, [], 0⟩ d.l) = total d.l := by
        have := total_putF ⟨nm, [], 0⟩ d.l (by have := h2.ok.up; rwa [spent_l] at this)
        simp only [hfd, lenO, List.length_nil] at this
        omega
      obtain ⟨v', w', hr, hsl, hrow, hD', hT'⟩ := h3.append hm3 hm hc (hl.turn hT13 hout) hz (by simp only [spent_l, spent_q]; omega) ty
      simp only [e2, spent_l] at hr hsl hrow hD' hT'
      have hpp : putF ⟨nm, [] ++ zs, 0⟩ (putF ⟨nm, [], 0⟩ d.l) = putF ⟨nm, [] ++ zs, 0⟩ d.l := put_put ⟨nm, [], 0⟩ ⟨nm, [] ++ zs, 0⟩ rfl d.l
      rw [hpp] at hD'
      refine ⟨v', w', hr, hsl, hrow, rfl, _, hD', ⟨hT13.trans hT' (fun k hk => ?_), fun k hk => ?_⟩⟩
      · rcases hk with hk | hk
        · exact .inl hk
        · exact .inr (Nat.le_trans hT.size hk.1)
      · rcases hk with (hk | hk) | hk
        · exact .inl hk
        · exact .inr (Nat.le_trans hT.size hk.1)
        · exact .inr (Nat.le_trans hT13.size hk.1))
  have c3 : w.cell? ⟨g, 3, none⟩ = some (.bool false) := by rw [h.row.cell 3, ho]; rfl
  subst hm
  clear h ho hn hsp h0 hfd hl hz hout hc
  go_enter Try.func11, Try.ntmps11
  go_upto_region 9 with (first
    | (go_at_call 29; (with_reducible refine hN.out.mono ?_); rintro e w' ⟨rfl, rfl⟩)
    | (go_at_call 25; (with_reducible refine hR.out.mono ?_); rintro e w1 ⟨rfl, hb⟩)
    | (go_at_call 30; (with_reducible refine (hP.out _ hb).mono ?_); rintro e w2 ⟨rfl, hD, hg⟩))
  obtain ⟨b2, d1, hlk, d2, w3, hup, S3, hA⟩ := H.out w1 w2 hb hD hg
  have p0 := hA.cell
  have hrun := hide hA.run
  clear hb hD hg H hN hR hP c3 hA
  go_wp2_with (at_builtin; refine wpList_append_full rfl _ _ 27 rfl _ _ _ _ rfl rfl _ hrun.out ?_; intro v' w' hX; obtain ⟨⟨A', c', rfl⟩, ⟨q0, f0⟩, hC⟩ := hX; clear hrun p0)
  simp only [List.length_nil, Nat.zero_add, List.nil_append] at hC
  go_ret
  exact hC
/-- Append, in all its ways. -/
theorem append_any (g : Nat) (nm : ByteArray) (A : Option Addr) (n c : Nat) (zs : List Int) (d : DS) (w : World) (h : Dk S w g d) (hs : nm.size ≤ 140737488351232) (hm : zs.length = n) (hc : A = none → c = 0) (hl : Lies w A zs) (hout : Out S A zs) (hz : Octets zs) (hln : d.l.length < 9000000000) :
    Calls Try.prog 11 #[.pointer (some ⟨g, 0, none⟩), .string nm, .slice A n c] w (Chg S w g (appE d nm zs) (appS d nm zs)) := by
  subst hm
  unfold appE appS
  cases ho : d.off with
  | true => exact app_off h ho
  | false =>
    cases hn : nameB nm with
    | false => exact app_path h hs ho hn
    | true =>
      by_cases hf : d.q < total d.l + zs.length
      · simp only [hf, if_true, Bool.false_eq_true, if_false, reduceCtorEq]; exact app_full h ho hn hf
      · by_cases h0 : d.left = 0
        · simp only [hf, h0, if_true, Bool.false_eq_true, if_false, reduceCtorEq]; exact app_down h ho hn (by omega) h0
        · simp only [hf, h0, Bool.false_eq_true, if_false, reduceCtorEq]
          cases hfd : find nm d.l with
          | some f => exact app_old h ho hn rfl hc hl hout hz (by omega) h0 hfd
          | none => exact app_new h ho hn rfl hc hl hout hz (by omega) h0 hfd hln
end
end Go.Proofs.Ytllgjbkmemheoaa
