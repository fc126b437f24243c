/- What the document's Open comes to. Conditions: its disk lies in memory as it must, has few files with small numbers. -/
import Derived.Test.YtkmcnhjfnjikaaaGreatDoorRi
import Derived.LoopTactic
import Derived.Deep.DeepCutAuto
import Derived.Deep.RegionHeld3
namespace Go.Proofs.YtkmcnhjfnjikaaaGreatDoor
open Go.RowKit Go.Maps
/-- What Open answers. -/
def ROpP (T : Nat → Prop) (w : World) (r : Nat) (d : DS) (e : Ending) (w' : World) : Prop := ∃ T', Rk T' w' r (opS d) ∧ Own T w T' w' ∧
  ((opE d ≠ 0 ∧ e = .returned (.tuple #[.pointer none, .slice none 0 0, .int .i64 (opE d)])) ∨
   (opE d = 0 ∧ ∃ (R : Nat) (A : Option Addr) (c : Nat), e = .returned (.tuple #[.pointer (some ⟨R, 0, none⟩), .slice A (opL d).length c, .int .i64 0]) ∧ w.heap.size ≤ R ∧ ¬ T' R ∧ Row w' R 55 (rwRow r ⟨opG d, (opZ d).k, false⟩) ∧ (opL d).length ≤ c ∧ PartsN w.heap.size w' A (opL d)))
theorem names_small {m : Nat} {l : List Fl} (h : Sm m l) (hm : m ≤ 60) {s : ByteArray} (hs : s ∈ nms l) : (segOf s).1 < 100 ∧ (segOf s).2 < 100 := by
  obtain ⟨f, hf, rfl⟩ := List.mem_map.1 hs
  rcases h.nm f hf with ⟨g, k, hg, hk, e⟩ | e
  · rw [show (f.nm) = segN g k from e, segOf_segN (by omega) (by omega)]; exact ⟨by show g < 100; omega, by show k < 100; omega⟩
  · rw [show segOf f.nm = (0, 0) from e]; exact ⟨by decide, by decide⟩
theorem ropen_fin {T : Nat → Prop} {w w3 w' : World} {r : Nat} {d' : DS} (hb : Below w.heap.size w w3) (h : Rs T w3 r w' d') : ∃ T', Rk T' w' r d' ∧ Own T w T' w' ∧ ∀ k, T' k → T k ∨ w3.heap.size ≤ k := by
  obtain ⟨T', h1, h2⟩ := h
  exact ⟨T', h1, (⟨Turn.of_below hb, fun k hk => .inl hk⟩ : Own T w T w3).trans h2, h2.new⟩
set_option maxRecDepth 100000 in
set_option maxHeartbeats 8000000 in
theorem ropen_any {T : Nat → Prop} {w : World} {r m : Nat} {d : DS} (h : Rk T w r d) (hs : Sm m d.l) (hm : m ≤ 60) : Calls Tryz.prog 18 #[.pointer (some ⟨r, 0, none⟩)] w (ROpP T w r d) := by
  have hTs := hide h.lt
  have hln : d.l.length ≤ 60 := by have := hs.len; omega
  have hup := hide h.ok.up
  have hsmall := hide (fun s (hs2 : s ∈ nms d.l) => names_small hs hm hs2)
  have hsz := hide (fun s (hs2 : s ∈ nms d.l) => (show s.size ≤ 140737488351232 by
    obtain ⟨f, hf, rfl⟩ := List.mem_map.1 hs2
    have := (name_size (h.ok.nm f hf)).2
    show f.nm.size ≤ _
    omega))
  have hnl : (nms d.l).length = d.l.length := length_nms d.l
  obtain ⟨n, hn⟩ : ∃ n, d.l.length = n := ⟨_, rfl⟩
  have RK0 := hide h
  have hrn := hide (fun (w1 : World) (hb : Below w.heap.size w w1) => (show Calls Tryz.prog 48 #[.pointer (some ⟨r, 0, none⟩)] w1 fun e w' => ∃ A' c', e = .returned (.slice A' n c') ∧ Strs w' A' (nms d.l) ∧ Below w1.heap.size w1 w' ∧ ∀ a, A' = some a → w1.heap.size ≤ a.block from by
    obtain ⟨_, R, A, c, hR⟩ := RK0.out.below hb
    rw [← hn]
    exact rnamesb_any hR (by omega)))
  rw [hn] at hnl
  have hb1 := hide (below_alloc' w (.cells #[.pointer (some ⟨r, 0, none⟩), .int .i64 0, .int .i64 0, .bool false] 55))
  have hr1 : Hid (Row (w.alloc (.cells #[.pointer (some ⟨r, 0, none⟩), .int .i64 0, .int .i64 0, .bool false] 55)) w.heap.size 55 (rwRow r ⟨0, 0, false⟩)) := hide (Row.new w 55 #[.pointer (some ⟨r, 0, none⟩), .int .i64 0, .int .i64 0, .bool false])
  have hnl := hide hnl
  clear h hs
  go_enter Tryz.func18, Tryz.ntmps18
  go_upto_region 2 with (fail)
  have hw1s : (w.alloc (.cells #[.pointer (some ⟨r, 0, none⟩), .int .i64 0, .int .i64 0, .bool false] 55)).heap.size = w.heap.size + 1 := by simp
  generalize hw1 : World.alloc _ _ = w1 at hb1 hr1 hw1s ⊢
  clear hw1
  obtain ⟨R, hRe⟩ : ∃ R, w.heap.size = R := ⟨_, rfl⟩
  rw [hRe] at hr1
  rw [hRe]
  go_upto_region 3 with (first
    | (go_at_call 48; (with_reducible refine (hrn.out _ hb1.out).mono ?_); rintro e w2 ⟨AN, cN, rfl, hS, hb2, han⟩; (have S2 := hide hS); (have B2 := hide hb2); (have hAN := hide (fun a (ha : AN = some a) => (show R + 1 ≤ a.block by have := han a ha; omega))); clear hS hb2 han))
  have hR2 := hide (hr1.out.below B2.out (by omega))
  have hb02 := hide (kept_trans hb1.out B2.out)
  have hne := hide (show ∀ (w4 : World), Kx (fun k => k ≠ R) w2 w4 → Strs w4 AN (nms d.l) from fun w4 hk => S2.out.kx hk fun _ a ha => by have := hAN.out a ha; omega)
  have hRK := hide (show ∀ (w4 : World), Kx (fun k => k ≠ R) w2 w4 → Rk T w4 r d ∧ Below w.heap.size w w4 ∧ R < w4.heap.size from fun w4 hk => by
    have h1 := RK0.out.below hb02.out
    refine ⟨h1.kept hk.size fun k hk2 => hk.same (by have := hTs.out k hk2; omega) (h1.lt k hk2), hb02.out.trans (hk.below hb02.out.size fun k hk2 => by omega), ?_⟩
    have := hR2.out.lt
    have := hk.size
    omega)
  have hfd := hide (fun (w4 : World) (hk : Kx (fun k => k ≠ R) w2 w4) (g : Nat) (hg : 1 ≤ g ∧ g < 100) => rfound_any (hRK.out w4 hk).1 (by omega) hg)
  have hk0 := hide (Kx.refl (fun k => k ≠ R) w2)
  clear S2 B2 hrn RK0 hr1 hb1 hb02
  go_wp2
  go_loopw [7, 8, 9] (fun o e i wr => ∃ (j G K : Nat) (A : Option Addr) (c lw : Nat) (L : List (List Int)) (E : Int), o = .slice A lw c ∧ e = .int .i64 E ∧ i = .int .i64 j ∧ j ≤ n ∧ L.length = lw ∧ Hid (Lo d.l ((nms d.l).take j) G K L E) ∧ Hid (Row wr R 55 (rwRow r ⟨G, K, false⟩)) ∧ Hid (Kx (fun k => k ≠ R) w2 wr) ∧ Hid (lw ≤ c) ∧ Hid (PartsN (R + 1) wr A L)) (fun _ _ i _ => n - (intOf i).toNat)
  case atStart => exact ⟨0, 0, 0, none, 0, 0, [], -1, rfl, rfl, rfl, by omega, rfl, Lo.start d.l, hR2, hk0, Nat.le_refl _, PartsN.nil _ _ _⟩
  case round =>
    clear hk0 hR2
    obtain ⟨j, G, K, A, c, lw, L, E, rfl, rfl, rfl, hj, hlw, hLo, hRow, hK, hc, hP⟩ := hrel
    have hlw2 := hide hlw
    by_cases hlt : j < n
    · have t1 : decide ((j : Int) < (n : Int)) = true := by simp; omega
      have t2 : decide (j < n) = true := by simp; omega
      obtain ⟨s, hs⟩ : ∃ s, (nms d.l)[j]? = some s := ⟨(nms d.l)[j]'(by rw [hnl.out]; exact hlt), List.getElem?_eq_getElem _⟩
      have hsm := List.mem_of_getElem? hs
      obtain ⟨b, off, rfl, hbl, hcell⟩ := (hne.out wr hK.out).at_ hs
      have hnd := hide (fun w => rnamed_any s w (hsz.out s hsm))
      have hsl := hsmall.out s hsm
      have htk := take_one hs
      have hskip := hide (fun (hh : ∀ g, segOf s = (g, 1) → whole d.l g = true → g ≤ G) => (by rw [htk]; exact hLo.out.skip hh : Lo d.l ((nms d.l).take (j + 1)) G K L E))
      unfold RNamedP at hnd
      have z1 : wr.cell? ⟨R, 1, none⟩ = some (.int .i64 G) := hRow.out.cell 1
      by_cases hok : (segOf s).1 = 0
      · have n1 : nz (segOf s).1 = false := by rw [hok]; rfl
        have hL2 := hide (hskip.out fun g e _ => by rw [e] at hok; have : g = 0 := hok; omega)
        rw [n1] at hnd
        clear hok hskip hLo hsm htk hs
        go_wp2_with (first | (go_at_call 49; (with_reducible refine (hnd.out _).mono ?_); rintro e w5 ⟨g9, k9, rfl, -, rfl⟩))
        go_roundw
        case rel => exact ⟨j + 1, G, K, A, c, lw, L, E, rfl, rfl, by go_num, by omega, hlw2.out, hL2, hRow, hK, hc, hP⟩
        case measure => simp [intOf]; omega
      · obtain ⟨g, k, hgk⟩ : ∃ g k, segOf s = (g, k) := ⟨_, _, rfl⟩
        have n1 : nz (segOf s).1 = true := decide_eq_true hok
        have hnd2 := hide (fun (w : World) => (hnd.out w).mono (R' := fun e w' => e = .returned (.tuple #[.int .i64 g, .int .i64 k, .bool true]) ∧ w = w') fun e w' ⟨g9, k9, h1, h2, h3⟩ => by
          have h2 := h2 hok
          rw [hgk] at h2
          injection h2 with h4 h5
          rw [← h4, ← h5, n1] at h1
          exact ⟨h1, h3⟩)
        have hg0 : 1 ≤ g := by rw [hgk] at hok; have : g ≠ 0 := hok; omega
        have hg1 : g < 100 := by rw [hgk] at hsl; exact hsl.1
        clear hnd n1 hok hsl
        by_cases hk1 : k = 1
        · subst hk1
          have f1 : ((((1 : Nat) : Int)) != 1) = false := by simp
          by_cases hgG : g ≤ G
          · have f2 : decide ((g : Int) ≤ (G : Int)) = true := by simp; omega
            have f3 : decide (g ≤ G) = true := by simp; omega
            have hL2 := hide (hskip.out fun g9 e _ => by rw [hgk] at e; injection e with e; omega)
            clear hskip hLo hsm htk hs hgk hgG
            go_wp2_with (first | (go_at_call 49; (with_reducible refine (hnd2.out _).mono ?_); rintro e w5 ⟨rfl, rfl⟩))
            go_roundw
            case rel => exact ⟨j + 1, G, K, A, c, lw, L, E, rfl, rfl, by go_num, by omega, hlw2.out, hL2, hRow, hK, hc, hP⟩
            case measure => simp [intOf]; omega
          · have f2 : decide ((g : Int) ≤ (G : Int)) = false := by simp; omega
            have f3 : decide (g ≤ G) = false := by simp; omega
            have hfound := hide (hfd.out wr hK.out g ⟨hg0, hg1⟩)
            unfold FoundP at hfound
            cases hw : whole d.l g with
            | false =>
              have hL2 := hide (hskip.out fun g9 e hw9 => by rw [hgk] at e; injection e with e; subst e; rw [hw] at hw9; cases hw9)
              have hfound2 := hide (hfound.out.mono (R' := fun e w' => Below wr.heap.size wr w' ∧ ∃ (A : Option Addr) (n c : Nat) (a b : Int), e = .returned (.tuple #[.slice A n c, .int .i64 a, .int .i64 b, .bool false])) fun e w' ⟨hb, h2⟩ => ⟨hb, by
                rcases h2 with ⟨h3, _⟩ | ⟨_, h3⟩
                · rw [hw] at h3; cases h3
                · exact h3⟩)
              clear hskip hLo hsm htk hs hgk hgG hfound hw
              go_wp2_with (first
                | (go_at_call 49; (with_reducible refine (hnd2.out _).mono ?_); rintro e w5 ⟨rfl, rfl⟩)
                | (go_at_call 50; (with_reducible refine hfound2.out.mono ?_); rintro e w6 ⟨hb6, A6, n6, c6, a6, b6, rfl⟩; have hb6 := hide hb6))
              go_roundw
              case rel => exact ⟨j + 1, G, K, A, c, lw, L, E, rfl, rfl, by go_num, by omega, hlw2.out, hL2, hRow.out.below hb6.out hRow.out.lt, hK.out.trans (Kx.of_below hb6.out), hc, hP.out.below hb6.out⟩
              case measure => simp [intOf]; omega
            | true =>
              have hL2 := hide (show Lo d.l ((nms d.l).take (j + 1)) g (gen d.l g).k (gen d.l g).L.tail (cutI (gen d.l g)) by rw [htk]; exact hLo.out.take hgk ⟨hg0, hg1⟩ (by omega) hw)
              have hfound2 := hide (hfound.out.mono (R' := fun e w' => Below wr.heap.size wr w' ∧ ∃ (A : Option Addr) (c : Nat), e = .returned (.tuple #[.slice A (gen d.l g).L.tail.length c, .int .i64 ((gen d.l g).k : Nat), .int .i64 (cutI (gen d.l g)), .bool true]) ∧ (gen d.l g).L.tail.length ≤ c ∧ PartsN wr.heap.size w' A (gen d.l g).L.tail) fun e w' ⟨hb, h2⟩ => ⟨hb, by
                rcases h2 with ⟨_, h3⟩ | ⟨h3, _⟩
                · exact h3
                · rw [hw] at h3; cases h3⟩)
              clear hskip hLo hsm htk hs hgk hgG hfound hw
              generalize cutI (gen d.l g) = E2 at *
              generalize (gen d.l g).L.tail = L2 at *
              generalize (gen d.l g).k = K2 at *
              obtain ⟨lw3, hlw3⟩ : ∃ n, L2.length = n := ⟨_, rfl⟩
              rw [hlw3] at hfound2
              have hlw3 := hide hlw3
              have hRl := hRow.out.lt
              go_upto_region 12 with (first
                | (go_at_call 49; (with_reducible refine (hnd2.out _).mono ?_); rintro e w5 ⟨rfl, rfl⟩)
                | (go_at_call 50; (with_reducible refine hfound2.out.mono ?_); rintro e w6 ⟨hb6, A6, c6, rfl, hc6, hp6⟩; have hb6 := hide hb6; have hc6 := hide hc6; have hp6 := hide hp6))
              have hR6 := hide (hRow.out.below hb6.out hRow.out.lt)
              have z61 : w6.cell? ⟨R, 1, none⟩ = some (.int .i64 G) := hR6.out.cell 1
              have z62 : w6.cell? ⟨R, 2, none⟩ = some (.int .i64 K) := hR6.out.cell 2
              have fr1 := hR6.out.free 1
              have fr2 := hR6.out.free 2
              have hR7 := hide ((hR6.out.put 1 (.int .i64 g)).put 2 (.int .i64 K2))
              have hK7 := hide ((hK.out.trans (Kx.of_below hb6.out)).trans ((Kx.of_grown (grown_set w6 ⟨R, 1, none⟩ (.int .i64 g)) (fun k e hx => hx (by injection e with e; exact e.symm))).trans (Kx.of_grown (grown_set _ ⟨R, 2, none⟩ (.int .i64 K2)) (fun k e hx => hx (by injection e with e; exact e.symm)))))
              have hP7 := hide (show PartsN (R + 1) ((w6.setCell ⟨R, 1, none⟩ (.int .i64 g)).setCell ⟨R, 2, none⟩ (.int .i64 K2)) A6 L2 from (hp6.out.mono (by omega : R + 1 ≤ wr.heap.size)).kx (X := fun k => k ≠ R) ((Kx.of_grown (grown_set w6 ⟨R, 1, none⟩ (.int .i64 g)) (fun k e hx => hx (by injection e with e; exact e.symm))).trans (Kx.of_grown (grown_set _ ⟨R, 2, none⟩ (.int .i64 K2)) (fun k e hx => hx (by injection e with e; exact e.symm)))) fun k h1 _ => by omega)
              go_wp2
              go_roundw
              case rel => exact ⟨j + 1, g, K2, A6, c6, lw3, L2, E2, rfl, rfl, by go_num, by omega, hlw3.out, hL2, hR7, hK7, hc6, hP7⟩
              case measure => simp [intOf]; omega
        · have f1 : ((k : Int) != 1) = true := by simp; omega
          have hL2 := hide (hskip.out fun g9 e _ => by rw [hgk] at e; injection e with _ e; exact absurd e hk1)
          clear hskip hLo hsm htk hs hgk hk1
          go_wp2_with (first | (go_at_call 49; (with_reducible refine (hnd2.out _).mono ?_); rintro e w5 ⟨rfl, rfl⟩))
          go_roundw
          case rel => exact ⟨j + 1, G, K, A, c, lw, L, E, rfl, rfl, by go_num, by omega, hlw2.out, hL2, hRow, hK, hc, hP⟩
          case measure => simp [intOf]; omega
    · obtain rfl : j = n := by omega
      have t1 : decide ((j : Int) < (j : Int)) = false := by simp
      have t2 : decide (j < j) = false := by simp
      have hfin := hLo.out
      rw [List.take_of_length_le (by rw [hnl.out]; exact Nat.le_refl _)] at hfin
      obtain ⟨rfl, rfl, rfl, rfl⟩ := hfin.fin
      clear hfin hLo hlt
      have RK3 := hRK.out wr hK.out
      have R3 := hide (Rs.start RK3.1)
      have b3 := hide RK3.2.1
      have hRl := RK3.2.2
      have hnT : ¬ T R := fun hk => by have := hTs.out R hk; omega
      have hnT2 := hide (show ∀ k, R + 1 ≤ k → ¬ T k from fun k hk ht => by have := hTs.out k ht; omega)
      have hSt := hide (hne.out wr hK.out)
      have hcl := hide (fun (w' : World) (d' : DS) (h : Rs T wr r w' d') => (⟨(hRow.out.same (h.kx.same hnT hRl)).cell 1, (hRow.out.same (h.kx.same hnT hRl)).cell 2⟩ : w'.cell? ⟨R, 1, none⟩ = some (.int .i64 (opG d : Nat)) ∧ w'.cell? ⟨R, 2, none⟩ = some (.int .i64 ((opZ d).k : Nat))))
      have hnm := hide (fun (w' : World) (d' : DS) (h : Rs T wr r w' d') => hSt.out.kx h.kx fun _ a ha => hnT2.out _ (hAN.out a ha))
      have hbad := hide (fun (w' : World) (d' : DS) (x : Int) (h : Rs T wr r w' d') (h1 : opE d = x) (h2 : x ≠ 0) (h3 : opS d = d') => (show ROpP T w r d (.returned (.tuple #[.pointer none, .slice none 0 0, .int .i64 x])) w' from by
        obtain ⟨T', g1, g2, g3⟩ := ropen_fin b3.out h
        subst h1 h3
        exact ⟨T', g1, g2, .inl ⟨h2, rfl⟩⟩))
      have hgood := hide (fun (w' : World) (d' : DS) (h : Rs T wr r w' d') (h1 : opE d = 0) (h3 : opS d = d') => (show ROpP T w r d (.returned (.tuple #[.pointer (some ⟨R, 0, none⟩), .slice A lw c, .int .i64 0])) w' from by
        have hk := h.kx
        obtain ⟨T', g1, g2, g3⟩ := ropen_fin b3.out h
        subst h3
        refine ⟨T', g1, g2, .inr ⟨h1, R, A, c, by rw [hlw2.out], by omega, fun ht => ?_, hRow.out.same (hk.same hnT hRl), by rw [hlw2.out]; exact hc.out, ?_⟩⟩
        · rcases g3 R ht with z | z
          · exact hnT z
          · omega
        · exact (hP.out.kx hk fun k h1 _ => hnT2.out k h1).mono (by omega)))
      have hGK := hide (fun (h : opG d ≠ 0) => opZ_k1 h)
      have hG99 := opG_le d
      have hKl := opZ_k d
      have hZ0 := hide (fun (h : (opZ d).u < (opZ d).n) => (show opG d ≠ 0 from fun h0 => by
        have hz : opZ d = Gs.zero := by unfold opZ; rw [if_pos h0]
        rw [hz] at h
        exact absurd h (by decide)))
      have hsg := hide (fun (w' : World) (h : opG d ≠ 0) => rsegment_any (opG d) (opZ d).k w' (by omega) ⟨hGK.out h, by omega⟩)
      have hE1 := hide (fun (h : op1E d ≠ 0) => op_e1 h)
      have hE2 := hide (fun (d' : DS) (x : Int) (h1 : op1E d = 0) (h2 : op2 d = (x, d')) (hx : x ≠ 0) => op_e2 h1 h2 hx)
      have hE3 := hide (fun (d' : DS) (h1 : op1E d = 0) (h2 : op2 d = (0, d')) (hG : opG d = 0) => op_e3 h1 h2 hG)
      have hE4 := hide (fun (d' : DS) (h1 : op1E d = 0) (h2 : op2 d = (0, d')) (hG : opG d ≠ 0) => op_e4 h1 h2 hG)
      have hO2 := hide (show op2 d = remL (olds d.l (opG d) (opZ d).k) (op1S d) from rfl)
      clear hP hRow hne hRK hfd hlw hK RK3
      by_cases hUN : (opZ d).u < (opZ d).n
      · have hcE : cutI (opZ d) = ((opZ d).u : Int) := by unfold cutI; rw [if_pos hUN]
        have h1E := hide (show op1E d = cutE d (segN (opG d) (opZ d).k) (opZ d).u by unfold op1E; rw [if_pos hUN])
        have h1S := hide (show op1S d = cutS d (segN (opG d) (opZ d).k) (opZ d).u by unfold op1S; rw [if_pos hUN])
        have hG0 := hZ0.out hUN
        have hsg1 := hide (fun w' => hsg.out w' hG0)
        have y1 : decide ((0 : Int) ≤ ((opZ d).u : Int)) = true := by simp
        rw [hcE]
        clear hUN hZ0 hcE
        have hlen1 := hide (show (op1S d).l.length ≤ 200 by rw [h1S.out]; have := len_cut (d := d) (nm := segN (opG d) (opZ d).k) (opZ d).u; omega)
        generalize hnme : segN (opG d) (opZ d).k = nm at *
        obtain ⟨U, hU⟩ : ∃ u, (opZ d).u = u := ⟨_, rfl⟩
        rw [hU] at h1E h1S y1
        rw [hU]
        clear hU
        go_upto_region 14 with (fail)
        have QQ := hide (R3.out.below (below_drew wr))
        go_region_held3 (fun w' => w'.cell? ⟨R, 1, none⟩ = some (.int .i64 (opG d : Nat)) ∧ w'.cell? ⟨R, 2, none⟩ = some (.int .i64 ((opZ d).k : Nat))) ((with_reducible exact hcl.out _ _ QQ.out))
          (first
            | (go_at_call 36; (with_reducible refine (hsg1.out _).mono ?_); rintro e w5 ⟨rfl, hb5⟩; (have QN := hide (QQ.out.below hb5)); clear QQ hb5; (have QQ := QN); clear QN)
            | (go_at_call 51; (with_reducible refine (QQ.out.cut (by omega) (U : Int)).mono ?_); rintro e w6 ⟨rfl, hQ6⟩; clear QQ; (have QQ := hide hQ6); clear hQ6))
        clear y1 hsg1
        rw [← h1S.out] at QQ
        generalize hce : cutE d nm (U : Int) = e1 at *
        by_cases he : op1E d = 0
        · have ce : (e1 != 0) = false := by simp [← h1E.out, he]
          have he := hide he
          clear hce h1E h1S
          go_wp2
          go_loopw [18] (fun i wx => ∃ (q : Nat) (dj : DS), i = .int .i64 q ∧ q ≤ j ∧ Hid (Rj d.l (opG d) (opZ d).k q (op1S d) dj) ∧ Hid (dj.l.length ≤ 200 + q) ∧ Hid (Rs T wr r wx dj)) (fun i _ => j - (intOf i).toNat)
          case atStart => exact ⟨0, op1S d, rfl, by omega, Rj.start _ _ _ _, hlen1, QQ⟩
          case round =>
            clear QQ
            obtain ⟨q, dj, rfl, hq, hRj, hdl, hQ⟩ := hrel
            have hdl2 : dj.l.length ≤ 1000000 := by have := hdl.out; omega
            by_cases hlt : q < j
            · have t1 : decide ((q : Int) < (j : Int)) = true := by simp; omega
              have t2 : decide (q < j) = true := by simp; omega
              obtain ⟨s, hs⟩ : ∃ s, (nms d.l)[q]? = some s := ⟨(nms d.l)[q]'(by rw [hnl.out]; exact hlt), List.getElem?_eq_getElem _⟩
              have hsm := List.mem_of_getElem? hs
              obtain ⟨b, off, rfl, hbl, hcell⟩ := (hnm.out _ _ hQ.out).at_ hs
              obtain ⟨z1, z2⟩ := hcl.out _ _ hQ.out
              have hnd := hide (fun w => rnamed_any s w (hsz.out s hsm))
              have hs := hide hs
              unfold RNamedP at hnd
              by_cases hok : (segOf s).1 = 0
              · have n1 : nz (segOf s).1 = false := by rw [hok]; rfl
                have hR2 := hide (hRj.out.skip hs.out (by unfold oldB; rw [decide_eq_false (fun h => h hok)]; rfl))
                have hd2 := hide (show dj.l.length ≤ 200 + (q + 1) by have := hdl.out; omega)
                rw [n1] at hnd
                clear hok hRj hsm
                go_wp2_with (first | (go_at_call 49; (with_reducible refine (hnd.out _).mono ?_); rintro e w5 ⟨g9, k9, rfl, -, rfl⟩))
                go_roundw
                case rel => exact ⟨q + 1, dj, by go_num, by omega, hR2, hd2, hQ⟩
                case measure => simp [intOf]; omega
              · obtain ⟨g, k, hgk⟩ : ∃ g k, segOf s = (g, k) := ⟨_, _, rfl⟩
                have n1 : nz (segOf s).1 = true := decide_eq_true hok
                have hnd2 := hide (fun (w : World) => (hnd.out w).mono (R' := fun e w' => e = .returned (.tuple #[.int .i64 g, .int .i64 k, .bool true]) ∧ w = w') fun e w' ⟨g9, k9, h1, h2, h3⟩ => by
                  have h2 := h2 hok
                  rw [hgk] at h2
                  injection h2 with h4 h5
                  rw [← h4, ← h5, n1] at h1
                  exact ⟨h1, h3⟩)
                have hg0 : g ≠ 0 := by rw [hgk] at hok; exact hok
                clear hnd n1 hok
                have hcase : (((g : Int) != ((opG d : Nat) : Int)) = true ∧ Hid (oldB (opG d) (opZ d).k s = true)) ∨ (((g : Int) != ((opG d : Nat) : Int)) = false ∧ decide ((((opZ d).k : Nat) : Int) < (k : Int)) = true ∧ decide ((opZ d).k < k) = true ∧ Hid (oldB (opG d) (opZ d).k s = true)) ∨ (((g : Int) != ((opG d : Nat) : Int)) = false ∧ decide ((((opZ d).k : Nat) : Int) < (k : Int)) = false ∧ decide ((opZ d).k < k) = false ∧ Hid (oldB (opG d) (opZ d).k s = false)) := by
                  unfold oldB
                  rw [hgk]
                  dsimp only
                  rw [decide_eq_true hg0, Bool.true_and]
                  by_cases h1 : g = opG d
                  · have e0 : ((g : Int) != ((opG d : Nat) : Int)) = false := by simp [h1]
                    rw [decide_eq_true h1, Bool.true_and]
                    by_cases h2 : (opZ d).k < k
                    · exact .inr (.inl ⟨e0, decide_eq_true (by omega), decide_eq_true h2, (show (!decide (k ≤ (opZ d).k)) = true by rw [decide_eq_false (by omega)]; rfl)⟩)
                    · exact .inr (.inr ⟨e0, decide_eq_false (by omega), decide_eq_false h2, (show (!decide (k ≤ (opZ d).k)) = false by rw [decide_eq_true (by omega)]; rfl)⟩)
                  · exact .inl ⟨by simp; omega, (show (!(decide (g = opG d) && _)) = true by rw [decide_eq_false h1]; rfl)⟩
                have hrm := hide (hQ.out.rem (nm := s) hdl2)
                have hstop := hide (fun (ho : oldB (opG d) (opZ d).k s = true) (h : remE dj s ≠ 0) => hRj.out.stop hs.out ho h)
                have hmore := hide (fun (ho : oldB (opG d) (opZ d).k s = true) (h : remE dj s = 0) => hRj.out.more hs.out ho h)
                have hskip := hide (fun (ho : oldB (opG d) (opZ d).k s = false) => hRj.out.skip hs.out ho)
                have hlr := hide (show (remS dj s).l.length ≤ 200 + (q + 1) by have := len_rem (d := dj) (nm := s); have := hdl.out; omega)
                have hd2 := hide (show dj.l.length ≤ 200 + (q + 1) by have := hdl.out; omega)
                clear hRj hsm hgk hg0
                have hrest : (((g : Int) != ((opG d : Nat) : Int)) = true ∧ Hid (oldB (opG d) (opZ d).k s = true)) ∨ (((g : Int) != ((opG d : Nat) : Int)) = false ∧ decide ((((opZ d).k : Nat) : Int) < (k : Int)) = true ∧ decide ((opZ d).k < k) = true ∧ Hid (oldB (opG d) (opZ d).k s = true)) ∨ (((g : Int) != ((opG d : Nat) : Int)) = false ∧ decide ((((opZ d).k : Nat) : Int) < (k : Int)) = false ∧ decide ((opZ d).k < k) = false ∧ Hid (oldB (opG d) (opZ d).k s = false)) := hcase
                clear hcase
                rcases hrest with ⟨c1, ho⟩ | ⟨c1, c2, c3, ho⟩ | ⟨c1, c2, c3, ho⟩
                case inr.inr =>
                  go_wp2_with (first | (go_at_call 49; (with_reducible refine (hnd2.out _).mono ?_); rintro e w5 ⟨rfl, rfl⟩))
                  go_roundw
                  case rel => exact ⟨q + 1, dj, by go_num, by omega, hskip.out ho.out, hd2, hQ⟩
                  case measure => simp [intOf]; omega
                all_goals
                  generalize hxe : remE dj s = x at *
                  generalize remS dj s = d2 at *
                  by_cases hx : x = 0
                  · have cx : (x != 0) = false := by simp [hx]
                    have hm2 := hide (hmore.out ho.out hx)
                    clear hxe hx
                    go_wp2_with (first
                      | (go_at_call 49; (with_reducible refine (hnd2.out _).mono ?_); rintro e w5 ⟨rfl, rfl⟩)
                      | (go_at_call 52; (with_reducible refine hrm.out.mono ?_); rintro e w8 ⟨rfl, hQ8⟩; have hQ8 := hide hQ8))
                    go_roundw
                    case rel => exact ⟨q + 1, d2, by go_num, by omega, hm2, hlr, hQ8⟩
                    case measure => simp [intOf]; omega
                  · have cx : (x != 0) = true := by simp [hx]
                    have hend := hide (hE2.out d2 x he.out (by rw [hO2.out]; exact hstop.out ho.out hx) hx)
                    have hx := hide hx
                    clear hxe
                    go_wp2_with (first
                      | (go_at_call 49; (with_reducible refine (hnd2.out _).mono ?_); rintro e w5 ⟨rfl, rfl⟩)
                      | (go_at_call 52; (with_reducible refine hrm.out.mono ?_); rintro e w8 ⟨rfl, hQ8⟩; have hQ8 := hide hQ8))
                    go_ret3
                    exact hbad.out _ _ _ hQ8.out hend.out.1 hx.out hend.out.2
            · obtain rfl : q = j := by omega
              have t1 : decide ((q : Int) < (q : Int)) = false := by simp
              have t2 : decide (q < q) = false := by simp
              have ho2 := hide (show op2 d = (0, dj) from by
                rw [hO2.out]
                have h9 := hRj.out
                rw [← hnl.out] at h9
                exact h9.fin)
              obtain ⟨z1, z2⟩ := hcl.out _ _ hQ.out
              clear hRj hlt
              by_cases hG0 : opG d = 0
              · have c1 : decide ((0 : Int) < ((opG d : Nat) : Int)) = false := by simp; omega
                have c2 : decide (0 < opG d) = false := by simp; omega
                have hend := hide (hE3.out dj he.out ho2.out hG0)
                clear hG0
                go_wp2
                go_ret3
                exact hgood.out _ _ hQ.out hend.out.1 hend.out.2
              · have c1 : decide ((0 : Int) < ((opG d : Nat) : Int)) = true := by simp; omega
                have c2 : decide (0 < opG d) = true := by simp; omega
                have hend := hide (hE4.out dj he.out ho2.out hG0)
                have hsg2 := hide (fun w' => hsg.out w' hG0)
                clear hG0
                go_upto_region 26 with (fail)
                have QS := hide (hQ.out.below (below_drew _))
                go_region_held3 (fun w' => w'.cell? ⟨R, 1, none⟩ = some (.int .i64 (opG d : Nat)) ∧ w'.cell? ⟨R, 2, none⟩ = some (.int .i64 ((opZ d).k : Nat))) ((with_reducible exact hcl.out _ _ QS.out))
                  (first
                    | (go_at_call 36; (with_reducible refine (hsg2.out _).mono ?_); rintro e w5 ⟨rfl, hb5⟩; (have QN := hide (QS.out.below hb5)); clear QS hb5; (have QS := QN); clear QN)
                    | (go_at_call 53; (with_reducible refine (QS.out.syn hdl2).mono ?_); rintro e w6 ⟨rfl, hQ6⟩; clear QS; (have QS := hide hQ6); clear hQ6))
                clear z1 z2 hsg hE1 hE2 hE3 hE4
                generalize synS dj nm = d9 at *
                generalize synE dj nm = x at *
                by_cases hx : x = 0
                · have cx : (x != 0) = false := by simp [hx]
                  have hx := hide hx
                  go_wp2
                  go_ret3
                  exact hgood.out _ _ QS.out (hend.out.1.trans hx.out) hend.out.2
                · have cx : (x != 0) = true := by simp [hx]
                  have hx := hide hx
                  go_wp2
                  go_ret3
                  exact hbad.out _ _ _ QS.out hend.out.1 hx.out hend.out.2
        · have ce : (e1 != 0) = true := by simp [← h1E.out, he]
          have hend := hide (hE1.out he)
          have hne1 := hide (show e1 ≠ 0 by rw [← h1E.out]; exact he)
          rw [h1E.out] at hend
          clear he hce
          go_wp2
          go_ret3
          exact hbad.out _ _ _ QQ.out hend.out.1 hne1.out hend.out.2
      · have hcE : cutI (opZ d) = -1 := by unfold cutI; rw [if_neg hUN]
        have he := hide (show op1E d = 0 by unfold op1E; rw [if_neg hUN])
        have h1S : op1S d = d := by unfold op1S; rw [if_neg hUN]
        rw [hcE]
        clear hUN hZ0 hcE
        have hlen1 := hide (show (op1S d).l.length ≤ 200 by rw [h1S]; omega)
        have QQ := hide (show Rs T wr r wr (op1S d) by rw [h1S]; exact R3.out)
        generalize hnme : segN (opG d) (opZ d).k = nm at *
        clear h1S
        go_wp2
        go_loopw [18] (fun i wx => ∃ (q : Nat) (dj : DS), i = .int .i64 q ∧ q ≤ j ∧ Hid (Rj d.l (opG d) (opZ d).k q (op1S d) dj) ∧ Hid (dj.l.length ≤ 200 + q) ∧ Hid (Rs T wr r wx dj)) (fun i _ => j - (intOf i).toNat)
        case atStart => exact ⟨0, op1S d, rfl, by omega, Rj.start _ _ _ _, hlen1, QQ⟩
        case round =>
          clear QQ
          obtain ⟨q, dj, rfl, hq, hRj, hdl, hQ⟩ := hrel
          have hdl2 : dj.l.length ≤ 1000000 := by have := hdl.out; omega
          by_cases hlt : q < j
          · have t1 : decide ((q : Int) < (j : Int)) = true := by simp; omega
            have t2 : decide (q < j) = true := by simp; omega
            obtain ⟨s, hs⟩ : ∃ s, (nms d.l)[q]? = some s := ⟨(nms d.l)[q]'(by rw [hnl.out]; exact hlt), List.getElem?_eq_getElem _⟩
            have hsm := List.mem_of_getElem? hs
            obtain ⟨b, off, rfl, hbl, hcell⟩ := (hnm.out _ _ hQ.out).at_ hs
            obtain ⟨z1, z2⟩ := hcl.out _ _ hQ.out
            have hnd := hide (fun w => rnamed_any s w (hsz.out s hsm))
            have hs := hide hs
            unfold RNamedP at hnd
            by_cases hok : (segOf s).1 = 0
            · have n1 : nz (segOf s).1 = false := by rw [hok]; rfl
              have hR2 := hide (hRj.out.skip hs.out (by unfold oldB; rw [decide_eq_false (fun h => h hok)]; rfl))
              have hd2 := hide (show dj.l.length ≤ 200 + (q + 1) by have := hdl.out; omega)
              rw [n1] at hnd
              clear hok hRj hsm
              go_wp2_with (first | (go_at_call 49; (with_reducible refine (hnd.out _).mono ?_); rintro e w5 ⟨g9, k9, rfl, -, rfl⟩))
              go_roundw
              case rel => exact ⟨q + 1, dj, by go_num, by omega, hR2, hd2, hQ⟩
              case measure => simp [intOf]; omega
            · obtain ⟨g, k, hgk⟩ : ∃ g k, segOf s = (g, k) := ⟨_, _, rfl⟩
              have n1 : nz (segOf s).1 = true := decide_eq_true hok
              have hnd2 := hide (fun (w : World) => (hnd.out w).mono (R' := fun e w' => e = .returned (.tuple #[.int .i64 g, .int .i64 k, .bool true]) ∧ w = w') fun e w' ⟨g9, k9, h1, h2, h3⟩ => by
                have h2 := h2 hok
                rw [hgk] at h2
                injection h2 with h4 h5
                rw [← h4, ← h5, n1] at h1
                exact ⟨h1, h3⟩)
              have hg0 : g ≠ 0 := by rw [hgk] at hok; exact hok
              clear hnd n1 hok
              have hcase : (((g : Int) != ((opG d : Nat) : Int)) = true ∧ Hid (oldB (opG d) (opZ d).k s = true)) ∨ (((g : Int) != ((opG d : Nat) : Int)) = false ∧ decide ((((opZ d).k : Nat) : Int) < (k : Int)) = true ∧ decide ((opZ d).k < k) = true ∧ Hid (oldB (opG d) (opZ d).k s = true)) ∨ (((g : Int) != ((opG d : Nat) : Int)) = false ∧ decide ((((opZ d).k : Nat) : Int) < (k : Int)) = false ∧ decide ((opZ d).k < k) = false ∧ Hid (oldB (opG d) (opZ d).k s = false)) := by
                unfold oldB
                rw [hgk]
                dsimp only
                rw [decide_eq_true hg0, Bool.true_and]
                by_cases h1 : g = opG d
                · have e0 : ((g : Int) != ((opG d : Nat) : Int)) = false := by simp [h1]
                  rw [decide_eq_true h1, Bool.true_and]
                  by_cases h2 : (opZ d).k < k
                  · exact .inr (.inl ⟨e0, decide_eq_true (by omega), decide_eq_true h2, (show (!decide (k ≤ (opZ d).k)) = true by rw [decide_eq_false (by omega)]; rfl)⟩)
                  · exact .inr (.inr ⟨e0, decide_eq_false (by omega), decide_eq_false h2, (show (!decide (k ≤ (opZ d).k)) = false by rw [decide_eq_true (by omega)]; rfl)⟩)
                · exact .inl ⟨by simp; omega, (show (!(decide (g = opG d) && _)) = true by rw [decide_eq_false h1]; rfl)⟩
              have hrm := hide (hQ.out.rem (nm := s) hdl2)
              have hstop := hide (fun (ho : oldB (opG d) (opZ d).k s = true) (h : remE dj s ≠ 0) => hRj.out.stop hs.out ho h)
              have hmore := hide (fun (ho : oldB (opG d) (opZ d).k s = true) (h : remE dj s = 0) => hRj.out.more hs.out ho h)
              have hskip := hide (fun (ho : oldB (opG d) (opZ d).k s = false) => hRj.out.skip hs.out ho)
              have hlr := hide (show (remS dj s).l.length ≤ 200 + (q + 1) by have := len_rem (d := dj) (nm := s); have := hdl.out; omega)
              have hd2 := hide (show dj.l.length ≤ 200 + (q + 1) by have := hdl.out; omega)
              clear hRj hsm hgk hg0
              have hrest : (((g : Int) != ((opG d : Nat) : Int)) = true ∧ Hid (oldB (opG d) (opZ d).k s = true)) ∨ (((g : Int) != ((opG d : Nat) : Int)) = false ∧ decide ((((opZ d).k : Nat) : Int) < (k : Int)) = true ∧ decide ((opZ d).k < k) = true ∧ Hid (oldB (opG d) (opZ d).k s = true)) ∨ (((g : Int) != ((opG d : Nat) : Int)) = false ∧ decide ((((opZ d).k : Nat) : Int) < (k : Int)) = false ∧ decide ((opZ d).k < k) = false ∧ Hid (oldB (opG d) (opZ d).k s = false)) := hcase
              clear hcase
              rcases hrest with ⟨c1, ho⟩ | ⟨c1, c2, c3, ho⟩ | ⟨c1, c2, c3, ho⟩
              case inr.inr =>
                go_wp2_with (first | (go_at_call 49; (with_reducible refine (hnd2.out _).mono ?_); rintro e w5 ⟨rfl, rfl⟩))
                go_roundw
                case rel => exact ⟨q + 1, dj, by go_num, by omega, hskip.out ho.out, hd2, hQ⟩
                case measure => simp [intOf]; omega
              all_goals
                generalize hxe : remE dj s = x at *
                generalize remS dj s = d2 at *
                by_cases hx : x = 0
                · have cx : (x != 0) = false := by simp [hx]
                  have hm2 := hide (hmore.out ho.out hx)
                  clear hxe hx
                  go_wp2_with (first
                    | (go_at_call 49; (with_reducible refine (hnd2.out _).mono ?_); rintro e w5 ⟨rfl, rfl⟩)
                    | (go_at_call 52; (with_reducible refine hrm.out.mono ?_); rintro e w8 ⟨rfl, hQ8⟩; have hQ8 := hide hQ8))
                  go_roundw
                  case rel => exact ⟨q + 1, d2, by go_num, by omega, hm2, hlr, hQ8⟩
                  case measure => simp [intOf]; omega
                · have cx : (x != 0) = true := by simp [hx]
                  have hend := hide (hE2.out d2 x he.out (by rw [hO2.out]; exact hstop.out ho.out hx) hx)
                  have hx := hide hx
                  clear hxe
                  go_wp2_with (first
                    | (go_at_call 49; (with_reducible refine (hnd2.out _).mono ?_); rintro e w5 ⟨rfl, rfl⟩)
                    | (go_at_call 52; (with_reducible refine hrm.out.mono ?_); rintro e w8 ⟨rfl, hQ8⟩; have hQ8 := hide hQ8))
                  go_ret3
                  exact hbad.out _ _ _ hQ8.out hend.out.1 hx.out hend.out.2
          · obtain rfl : q = j := by omega
            have t1 : decide ((q : Int) < (q : Int)) = false := by simp
            have t2 : decide (q < q) = false := by simp
            have ho2 := hide (show op2 d = (0, dj) from by
              rw [hO2.out]
              have h9 := hRj.out
              rw [← hnl.out] at h9
              exact h9.fin)
            obtain ⟨z1, z2⟩ := hcl.out _ _ hQ.out
            clear hRj hlt
            by_cases hG0 : opG d = 0
            · have c1 : decide ((0 : Int) < ((opG d : Nat) : Int)) = false := by simp; omega
              have c2 : decide (0 < opG d) = false := by simp; omega
              have hend := hide (hE3.out dj he.out ho2.out hG0)
              clear hG0
              go_wp2
              go_ret3
              exact hgood.out _ _ hQ.out hend.out.1 hend.out.2
            · have c1 : decide ((0 : Int) < ((opG d : Nat) : Int)) = true := by simp; omega
              have c2 : decide (0 < opG d) = true := by simp; omega
              have hend := hide (hE4.out dj he.out ho2.out hG0)
              have hsg2 := hide (fun w' => hsg.out w' hG0)
              clear hG0
              go_upto_region 26 with (fail)
              have QS := hide (hQ.out.below (below_drew _))
              go_region_held3 (fun w' => w'.cell? ⟨R, 1, none⟩ = some (.int .i64 (opG d : Nat)) ∧ w'.cell? ⟨R, 2, none⟩ = some (.int .i64 ((opZ d).k : Nat))) ((with_reducible exact hcl.out _ _ QS.out))
                (first
                  | (go_at_call 36; (with_reducible refine (hsg2.out _).mono ?_); rintro e w5 ⟨rfl, hb5⟩; (have QN := hide (QS.out.below hb5)); clear QS hb5; (have QS := QN); clear QN)
                  | (go_at_call 53; (with_reducible refine (QS.out.syn hdl2).mono ?_); rintro e w6 ⟨rfl, hQ6⟩; clear QS; (have QS := hide hQ6); clear hQ6))
              clear z1 z2 hsg hE1 hE2 hE3 hE4
              generalize synS dj nm = d9 at *
              generalize synE dj nm = x at *
              by_cases hx : x = 0
              · have cx : (x != 0) = false := by simp [hx]
                have hx := hide hx
                go_wp2
                go_ret3
                exact hgood.out _ _ QS.out (hend.out.1.trans hx.out) hend.out.2
              · have cx : (x != 0) = true := by simp [hx]
                have hx := hide hx
                go_wp2
                go_ret3
                exact hbad.out _ _ _ QS.out hend.out.1 hx.out hend.out.2
end Go.Proofs.YtkmcnhjfnjikaaaGreatDoor
