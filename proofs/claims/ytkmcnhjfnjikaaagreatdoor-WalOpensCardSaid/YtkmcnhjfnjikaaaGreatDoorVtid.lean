/- What package wal's tidy comes to. Conditions: the disk lies in memory as it must, has few files with small numbers. -/
import Derived.Test.YtkmcnhjfnjikaaaGreatDoorVnew
import Derived.Deep.DeepCutAuto
import Derived.Deep.RegionHeld3
import Derived.Test.YtkmcnhjfnjikaaaGreatDoorKfrb
namespace Go.Proofs.YtkmcnhjfnjikaaaGreatDoor
open Go.RowKit Go.Maps
/-- What is taken away, by pairs of numbers. -/
def oldP (G K : Nat) (l : List (Nat × Nat)) : List ByteArray := (l.filter fun x => !(decide (x.1 = G) && decide (x.2 ≤ K))).map fun x => segN x.1 x.2
theorem olds_eq {m : Nat} {l : List Fl} (h : Sm m l) (hm : m ≤ 60) (G K : Nat) : olds l G K = oldP G K (segsL (nms l)) := by
  unfold olds oldP segsL nms
  have key : ∀ l' : List Fl, (∀ f, f ∈ l' → f ∈ l) → ((l'.map (·.nm)).filter fun s => decide ((segOf s).1 ≠ 0) && !(decide ((segOf s).1 = G) && decide ((segOf s).2 ≤ K))) =
      ((((l'.map (·.nm)).map segOf).filter fun x => decide (x.1 ≠ 0)).filter fun x => !(decide (x.1 = G) && decide (x.2 ≤ K))).map fun x => segN x.1 x.2 := by
    intro l'
    induction l' with
    | nil => intro _; rfl
    | cons f r ih =>
      intro hf
      have ih := ih fun g hg => hf g (List.mem_cons_of_mem _ hg)
      simp only [List.map_cons]
      rcases h.nm f (hf f List.mem_cons_self) with ⟨g, k, hg, hk, e⟩ | e
      · have e2 : segOf f.nm = (g, k) := by rw [e]; exact segOf_segN (by omega) (by omega)
        rw [List.filter_cons, List.filter_cons, e2, ih]
        have h0 : decide (g ≠ 0) = true := by simp; omega
        simp only [h0, Bool.true_and, if_true]
        rw [List.filter_cons]
        by_cases hc : (!(decide (g = G) && decide (k ≤ K))) = true
        · rw [if_pos hc, if_pos hc, List.map_cons, e]
        · rw [if_neg hc, if_neg hc]
      · rw [List.filter_cons, List.filter_cons, e, ih]
        simp
  exact key l fun f hf => hf
section
variable (d : DS) (G K U N : Nat)
def td1E : Int := if U < N then cutE d (segN G K) U else 0
def td1S : DS := if U < N then cutS d (segN G K) U else d
def tdE (ns : List ByteArray) : Int := if td1E d G K U N ≠ 0 then td1E d G K U N else if (remL ns (td1S d G K U N)).1 ≠ 0 then (remL ns (td1S d G K U N)).1 else if G = 0 then 0 else synE (remL ns (td1S d G K U N)).2 (segN G K)
def tdS (ns : List ByteArray) : DS := if td1E d G K U N ≠ 0 then td1S d G K U N else if (remL ns (td1S d G K U N)).1 ≠ 0 then (remL ns (td1S d G K U N)).2 else if G = 0 then (remL ns (td1S d G K U N)).2 else synS (remL ns (td1S d G K U N)).2 (segN G K)
end
theorem opE_td (d : DS) : opE d = tdE d (opG d) (opZ d).k (opZ d).u (opZ d).n (olds d.l (opG d) (opZ d).k) := rfl
theorem opS_td (d : DS) : opS d = tdS d (opG d) (opZ d).k (opZ d).u (opZ d).n (olds d.l (opG d) (opZ d).k) := rfl
/-- What the walk of tidy holds on to: the disk, apart from X and from a block of its own. -/
structure Tq (X : Nat → Prop) (w w' : World) (p : Nat) (d : DS) (gb : Nat) (t : TypeId) (cs : Array Value) : Prop where
  q : Dq (fun k => X k ∨ k = gb) w' p d
  k : Kx X w w'
  box : Row w' gb t cs
section
variable {X : Nat → Prop} {w w' w2 : World} {p gb : Nat} {d d' : DS} {t : TypeId} {cs : Array Value}
theorem Tq.below (h : Tq X w w' p d gb t cs) (hb : Below w'.heap.size w' w2) : Tq X w w2 p d gb t cs := ⟨h.q.below hb, h.k.trans (Kx.of_below hb), h.box.below hb h.box.lt⟩
theorem Tq.turn (h : Tq X w w' p d gb t cs) (hq : Dq (fun k => X k ∨ k = gb) w2 p d') (hk : Kx (fun k => X k ∨ k = gb) w' w2) : Tq X w w2 p d' gb t cs :=
  ⟨hq, h.k.trans (hk.mono fun _ hx => .inl hx), h.box.same (hk.same (.inr rfl) h.box.lt)⟩
theorem Tq.three {v a b u n : Value} (h : Tq X w w' p d gb t #[v, a, b, u, n]) : w'.cell? ⟨gb, 1, none⟩ = some a ∧ w'.cell? ⟨gb, 2, none⟩ = some b ∧ w'.cell? ⟨gb, 3, none⟩ = some u := ⟨h.box.cell 1, h.box.cell 2, h.box.cell 3⟩
theorem Tq.start (h : Dq X w p d) (t : TypeId) (cs : Array Value) : Tq X w (w.alloc (.cells cs t)) p d w.heap.size t cs := by
  have hb := (Below.refl w.heap.size w).alloc (Nat.le_refl _) (.cells cs t)
  exact ⟨h.more hb fun k hk => hk.imp id fun e => by subst e; exact ⟨Nat.le_refl _, by simp⟩, Kx.of_below hb, Row.new w t cs⟩
theorem Tq.done (h : Tq X w w' p d gb t cs) : Dq X w' p d ∧ Kx X w w' := ⟨h.q.less fun _ hk => .inl hk, h.k⟩
theorem SegsN.kx {A : Option Addr} {l : List (Nat × Nat)} (h : SegsN 0 w A l) (hk : Kx X w w') (hA : l ≠ [] → ∀ a, A = some a → X a.block) : SegsN 0 w' A l := fun j x hj => by
  obtain ⟨b, off, e, hle, hlt, h1, h2⟩ := h j x hj
  have hb := hk.same (hA (fun h0 => by rw [h0] at hj; simp at hj) _ e) hlt
  exact ⟨b, off, e, hle, Nat.lt_of_lt_of_le hlt hk.size, (World.cell?_of_block (a := ⟨b, off + j * 2, none⟩) hb).trans h1, (World.cell?_of_block (a := ⟨b, off + j * 2 + 1, none⟩) hb).trans h2⟩
end
theorem remL_cons (s : ByteArray) (r : List ByteArray) (d : DS) : remL (s :: r) d = if remE d s = 0 then remL r (remS d s) else (remE d s, remS d s) := rfl
def TidP (X : Nat → Prop) (w : World) (p : Nat) (x : Int) (d : DS) (e : Ending) (w' : World) : Prop := e = .returned (.int .i64 x) ∧ Dq X w' p d ∧ Kx X w w'
theorem below_alloc' (w : World) (o : Obj) : Below w.heap.size w (w.alloc o) := (Below.refl _ _).alloc (Nat.le_refl _) o
set_option maxRecDepth 100000 in
set_option maxHeartbeats 2000000 in
theorem tidy_any {X : Nat → Prop} {p G K U N c : Nat} {d : DS} {w : World} {A : Option Addr} {v : Value} {l : List (Nat × Nat)} (h : Dq X w p d) (hG : G < 100) (hK : K < 100) (hU : U ≤ 1048576) (hl : l.length ≤ 100) (hs : ∀ x, x ∈ l → x.1 < 100 ∧ x.2 < 100)
    (hA : SegsN 0 w A l) (hX : l ≠ [] → ∀ a, A = some a → X a.block) :
    Calls Tryz.prog 40 #[.agg #[v, .int .i64 G, .int .i64 K, .int .i64 U, .int .i64 N], .pointer (some ⟨p, 0, none⟩), .slice A l.length c] w
      (TidP X w p (tdE d G K U N (oldP G K l)) (tdS d G K U N (oldP G K l))) := by
  have T0 := hide (Tq.start h 82 #[v, .int .i64 G, .int .i64 K, .int .i64 U, .int .i64 N])
  have hn := hide (fun (w : World) => name_any G K w hG hK)
  have hsz := segN_size G K
  clear h
  go_enter Tryz.func40, Tryz.ntmps40
  go_upto_if 15 with (fail)
  generalize hw1 : World.alloc _ _ = w1 at T0 ⊢
  clear hw1
  go_cut [7] (fun _ wx => Hid (td1E d G K U N = 0 ∧ Tq X w wx p (td1S d G K U N) w.heap.size 82 #[v, .int .i64 G, .int .i64 K, .int .i64 U, .int .i64 N]))
  case first =>
    by_cases hlt : U < N
    · have t1 : decide ((U : Int) < (N : Int)) = true := by simp; omega
      have t2 : decide (U < N) = true := by simp; omega
      have he := hide (show td1E d G K U N = cutE d (segN G K) U from by unfold td1E; rw [if_pos hlt])
      have hd := hide (show td1S d G K U N = cutS d (segN G K) U from by unfold td1S; rw [if_pos hlt])
      have hc := hide (fun (w2 : World) (T : Tq X w w2 p d w.heap.size 82 #[v, .int .i64 G, .int .i64 K, .int .i64 U, .int .i64 N]) => (cut_q (nm := segN G K) (n := (U : Int)) T.q (by unfold maxLen; omega) (by omega)).mono (R' := fun e w3 => e = .returned (.int .i64 (cutE d (segN G K) U)) ∧ Tq X w w3 p (cutS d (segN G K) U) w.heap.size 82 #[v, .int .i64 G, .int .i64 K, .int .i64 U, .int .i64 N]) fun e w3 ⟨h1, h2, h3⟩ => ⟨h1, T.turn h2 h3⟩)
      have hres := hide (show td1E d G K U N ≠ 0 → ∀ w3, Tq X w w3 p (td1S d G K U N) w.heap.size 82 #[v, .int .i64 G, .int .i64 K, .int .i64 U, .int .i64 N] → TidP X w p (tdE d G K U N (oldP G K l)) (tdS d G K U N (oldP G K l)) (.returned (.int .i64 (td1E d G K U N))) w3 from fun h w3 T => by
        unfold TidP tdE tdS
        rw [if_pos h, if_pos h]
        exact ⟨rfl, T.done⟩)
      rw [he.out, hd.out] at hres
      generalize cutE d (segN G K) U = ec at *
      generalize cutS d (segN G K) U = dc at *
      generalize segN G K = nm at *
      go_upto_region 2 with (fail)
      have QQ := hide (T0.out.below ((Below.refl _ w1).drew))
      obtain ⟨_, z1, z2, z3, _, _⟩ := Row.all5 T0.out.box
      go_region_held3 (fun w2 => w2.cell? ⟨w.heap.size, 1, none⟩ = some (.int .i64 G) ∧ w2.cell? ⟨w.heap.size, 2, none⟩ = some (.int .i64 K) ∧ w2.cell? ⟨w.heap.size, 3, none⟩ = some (.int .i64 U)) ((with_reducible exact QQ.out.three))
        (first
          | (go_at_call 79; (with_reducible refine (hn.out _).mono ?_); rintro e w2 ⟨rfl, hb⟩; (have QN := hide (QQ.out.below hb)); clear QQ hb; (have QQ := QN); clear QN)
          | (go_at_call 78; (with_reducible refine (hc.out _ QQ.out).mono ?_); rintro e w2 ⟨rfl, hT⟩; (have QN := hide hT); clear QQ hT; (have QQ := QN); clear QN))
      all_goals
        clear z1 z2 z3
        by_cases hez : ec = 0
        · have e1 : (ec != 0) = false := by simp [hez]
          have hcut := hide (show td1E d G K U N = 0 ∧ Tq X w _ p (td1S d G K U N) w.heap.size 82 #[v, .int .i64 G, .int .i64 K, .int .i64 U, .int .i64 N] from by rw [he.out, hd.out]; exact ⟨hez, QQ.out⟩)
          clear hez
          go_wp2
          go_meet
          exact hcut
        · have e1 : (ec != 0) = true := by simp [hez]
          have hret := hide (hres.out hez _ QQ.out)
          clear hez
          go_wp2
          go_ret
          exact hret.out
    · have t1 : decide ((U : Int) < (N : Int)) = false := by simp; omega
      have t2 : decide (U < N) = false := by simp; omega
      have hcut := hide (show td1E d G K U N = 0 ∧ Tq X w w1 p (td1S d G K U N) w.heap.size 82 #[v, .int .i64 G, .int .i64 K, .int .i64 U, .int .i64 N] from by unfold td1E td1S; rw [if_neg hlt, if_neg hlt]; exact ⟨rfl, T0.out⟩)
      go_wp2
      go_meet
      exact hcut
  case rest =>
    have h1E := hide hcut.out.1
    have T1 := hide hcut.out.2
    clear hcut T0
    have hfinR := hide (show ∀ (r : Int × DS), remL (oldP G K l) (td1S d G K U N) = r → r.1 ≠ 0 → ∀ w3, Tq X w w3 p r.2 w.heap.size 82 #[v, .int .i64 G, .int .i64 K, .int .i64 U, .int .i64 N] → TidP X w p (tdE d G K U N (oldP G K l)) (tdS d G K U N (oldP G K l)) (.returned (.int .i64 r.1)) w3 from fun r hr h w3 T => by
      unfold TidP tdE tdS
      rw [if_neg (show ¬ td1E d G K U N ≠ 0 from fun h => h h1E.out), if_neg (show ¬ td1E d G K U N ≠ 0 from fun h => h h1E.out), hr, if_pos h, if_pos h]
      exact ⟨rfl, T.done⟩)
    have hfin0 := hide (show ∀ dj, remL (oldP G K l) (td1S d G K U N) = (0, dj) → G = 0 → ∀ w3, Tq X w w3 p dj w.heap.size 82 #[v, .int .i64 G, .int .i64 K, .int .i64 U, .int .i64 N] → TidP X w p (tdE d G K U N (oldP G K l)) (tdS d G K U N (oldP G K l)) (.returned (.int .i64 0)) w3 from fun dj hr h w3 T => by
      unfold TidP tdE tdS
      rw [if_neg (show ¬ td1E d G K U N ≠ 0 from fun h => h h1E.out), if_neg (show ¬ td1E d G K U N ≠ 0 from fun h => h h1E.out), hr, if_neg (show ¬ ((0:Int), dj).1 ≠ 0 from fun h => h rfl), if_neg (show ¬ ((0:Int), dj).1 ≠ 0 from fun h => h rfl), if_pos h, if_pos h]
      exact ⟨rfl, T.done⟩)
    have hfin1 := hide (show ∀ dj, remL (oldP G K l) (td1S d G K U N) = (0, dj) → G ≠ 0 → ∀ w3, Tq X w w3 p (synS dj (segN G K)) w.heap.size 82 #[v, .int .i64 G, .int .i64 K, .int .i64 U, .int .i64 N] → TidP X w p (tdE d G K U N (oldP G K l)) (tdS d G K U N (oldP G K l)) (.returned (.int .i64 (synE dj (segN G K)))) w3 from fun dj hr h w3 T => by
      unfold TidP tdE tdS
      rw [if_neg (show ¬ td1E d G K U N ≠ 0 from fun h => h h1E.out), if_neg (show ¬ td1E d G K U N ≠ 0 from fun h => h h1E.out), hr, if_neg (show ¬ ((0:Int), dj).1 ≠ 0 from fun h => h rfl), if_neg (show ¬ ((0:Int), dj).1 ≠ 0 from fun h => h rfl), if_neg h, if_neg h]
      exact ⟨rfl, T.done⟩)
    generalize td1S d G K U N = d1 at *
    have hA := hide hA
    have hX := hide hX
    have hs := hide hs
    go_wp2
    go_loopw [28] (fun i wr => ∃ (j : Nat) (dj : DS), j ≤ l.length ∧ i = .int .i64 j ∧ Hid (remL (oldP G K l) d1 = remL (oldP G K (l.drop j)) dj) ∧ Hid (Tq X w wr p dj w.heap.size 82 #[v, .int .i64 G, .int .i64 K, .int .i64 U, .int .i64 N])) (fun i _ => l.length - (intOf i).toNat)
    case atStart => exact ⟨0, d1, by omega, rfl, (show remL (oldP G K l) d1 = remL (oldP G K (l.drop 0)) d1 by rw [List.drop_zero]), T1.out⟩
    case round =>
      obtain ⟨j, dj, hj, rfl, hrem, T⟩ := hrel
      by_cases hlt : j < l.length
      · obtain ⟨⟨y1, y2⟩, hy⟩ : ∃ y, l[j]? = some y := ⟨l[j], List.getElem?_eq_getElem hlt⟩
        obtain ⟨B, off, rfl, _, hBl, hc0, hc1⟩ := (hA.out.kx T.out.k hX.out) j _ hy
        have hys := hs.out _ (List.mem_of_getElem? hy)
        obtain ⟨_, z1, z2, z3, z4, _⟩ := Row.all5 T.out.box
        have hl0 := T.out.box.lt
        have hdr : l.drop j = (y1, y2) :: l.drop (j + 1) := by
          rw [List.drop_eq_getElem_cons hlt]
          congr 1
          rw [List.getElem?_eq_getElem hlt] at hy
          simpa using hy
        have hold : oldP G K (l.drop j) = (if decide (y1 = G) && decide (y2 ≤ K) then [] else [segN y1 y2]) ++ oldP G K (l.drop (j + 1)) := by
          rw [hdr]
          unfold oldP
          rw [List.filter_cons]
          by_cases hc : (decide (y1 = G) && decide (y2 ≤ K)) = true
          · rw [if_pos hc]; simp [hc]
          · rw [if_neg hc]; simp only [Bool.not_eq_true] at hc; simp [hc]
        clear hdr hy
        by_cases hk : y1 = G ∧ y2 ≤ K
        · have t1 : decide (y1 = G) = true := by simp [hk.1]
          have t2 : decide (y2 ≤ K) = true := by simp [hk.2]
          have t3 : ((y1 : Int) == (G : Int)) = true := by simp [hk.1]
          have t4 : decide ((y2 : Int) ≤ (K : Int)) = true := by simp; omega
          have hrem2 := hide (show remL (oldP G K l) d1 = remL (oldP G K (l.drop (j + 1))) dj by rw [hrem.out, hold, t1, t2]; rfl)
          clear hold hrem
          go_wp2
          go_roundw
          case rel => exact ⟨j + 1, dj, by omega, by simp; try omega, hrem2, hide (T.out.below (below_alloc' _ _))⟩
          case measure => simp [intOf]; omega
        · have hrem2 := hide (show remL (oldP G K l) d1 = if remE dj (segN y1 y2) = 0 then remL (oldP G K (l.drop (j + 1))) (remS dj (segN y1 y2)) else (remE dj (segN y1 y2), remS dj (segN y1 y2)) by
            rw [hrem.out, hold, show (decide (y1 = G) && decide (y2 ≤ K)) = false by rw [Bool.and_eq_false_iff]; simp only [decide_eq_false_iff_not]; rcases Classical.em (y1 = G) with e | e; exact .inr fun h => hk ⟨e, h⟩; exact .inl e]
            rfl)
          have hsz2 := segN_size y1 y2
          have hn2 := hide (fun (w : World) => name_any y1 y2 w hys.1 hys.2)
          have hr2 := hide (fun (w2 : World) (T : Tq X w w2 p dj w.heap.size 82 #[v, .int .i64 G, .int .i64 K, .int .i64 U, .int .i64 N]) => (remove_q (nm := segN y1 y2) T.q (by unfold maxLen; omega)).mono (R' := fun e w3 => e = .returned (.int .i64 (remE dj (segN y1 y2))) ∧ Tq X w w3 p (remS dj (segN y1 y2)) w.heap.size 82 #[v, .int .i64 G, .int .i64 K, .int .i64 U, .int .i64 N]) fun e w3 ⟨h1, h2, h3⟩ => ⟨h1, T.turn h2 h3⟩)
          clear hold hrem hsz2
          generalize remE dj (segN y1 y2) = er at *
          generalize remS dj (segN y1 y2) = dr at *
          generalize segN y1 y2 = sn at *
          by_cases hk1 : y1 = G
          · have t1 : decide (y1 = G) = true := by simp [hk1]
            have t2 : decide (y2 ≤ K) = false := by simp; omega
            have t3 : ((y1 : Int) == (G : Int)) = true := by simp [hk1]
            have t4 : decide ((y2 : Int) ≤ (K : Int)) = false := by simp; omega
            clear hk hk1
            have QQ := hide (T.out.below (below_alloc' wr (.cells #[.int .i64 y1, .int .i64 y2] 80)))
            by_cases hez : er = 0
            · have e1 : (er != 0) = false := by simp [hez]
              have hrem3 := hide (show remL (oldP G K l) d1 = remL (oldP G K (l.drop (j + 1))) dr from by rw [hrem2.out, if_pos hez])
              clear hrem2
              go_wp2_with (first
                | (go_at_call 79; (with_reducible refine (hn2.out _).mono ?_); rintro e w2 ⟨rfl, hb⟩; (have QN := hide (QQ.out.below hb)); clear QQ hb; (have QQ := QN); clear QN)
                | (go_at_call 80; (with_reducible refine (hr2.out _ QQ.out).mono ?_); rintro e w2 ⟨rfl, hT⟩; (have QN := hide hT); clear QQ hT; (have QQ := QN); clear QN))
              go_roundw
              case rel => exact ⟨j + 1, dr, by omega, by simp; try omega, hrem3, QQ⟩
              case measure => simp [intOf]; omega
            · have e1 : (er != 0) = true := by simp [hez]
              have hret := hide (fun w3 T3 => hfinR.out (er, dr) (by rw [hrem2.out, if_neg hez]) hez w3 T3)
              clear hrem2
              go_wp2_with (first
                | (go_at_call 79; (with_reducible refine (hn2.out _).mono ?_); rintro e w2 ⟨rfl, hb⟩; (have QN := hide (QQ.out.below hb)); clear QQ hb; (have QQ := QN); clear QN)
                | (go_at_call 80; (with_reducible refine (hr2.out _ QQ.out).mono ?_); rintro e w2 ⟨rfl, hT⟩; (have QN := hide hT); clear QQ hT; (have QQ := QN); clear QN))
              go_ret
              exact hret.out _ QQ.out
          · have t1 : decide (y1 = G) = false := by simp [hk1]
            have t3 : ((y1 : Int) == (G : Int)) = false := by simp; omega
            clear hk hk1
            have QQ := hide (T.out.below (below_alloc' wr (.cells #[.int .i64 y1, .int .i64 y2] 80)))
            by_cases hez : er = 0
            · have e1 : (er != 0) = false := by simp [hez]
              have hrem3 := hide (show remL (oldP G K l) d1 = remL (oldP G K (l.drop (j + 1))) dr from by rw [hrem2.out, if_pos hez])
              clear hrem2
              go_wp2_with (first
                | (go_at_call 79; (with_reducible refine (hn2.out _).mono ?_); rintro e w2 ⟨rfl, hb⟩; (have QN := hide (QQ.out.below hb)); clear QQ hb; (have QQ := QN); clear QN)
                | (go_at_call 80; (with_reducible refine (hr2.out _ QQ.out).mono ?_); rintro e w2 ⟨rfl, hT⟩; (have QN := hide hT); clear QQ hT; (have QQ := QN); clear QN))
              go_roundw
              case rel => exact ⟨j + 1, dr, by omega, by simp; try omega, hrem3, QQ⟩
              case measure => simp [intOf]; omega
            · have e1 : (er != 0) = true := by simp [hez]
              have hret := hide (fun w3 T3 => hfinR.out (er, dr) (by rw [hrem2.out, if_neg hez]) hez w3 T3)
              clear hrem2
              go_wp2_with (first
                | (go_at_call 79; (with_reducible refine (hn2.out _).mono ?_); rintro e w2 ⟨rfl, hb⟩; (have QN := hide (QQ.out.below hb)); clear QQ hb; (have QQ := QN); clear QN)
                | (go_at_call 80; (with_reducible refine (hr2.out _ QQ.out).mono ?_); rintro e w2 ⟨rfl, hT⟩; (have QN := hide hT); clear QQ hT; (have QQ := QN); clear QN))
              go_ret
              exact hret.out _ QQ.out
      · obtain rfl : j = l.length := by omega
        have hrem2 := hide (show remL (oldP G K l) d1 = (0, dj) by rw [hrem.out, List.drop_length]; rfl)
        clear hrem
        obtain ⟨_, z1, z2, z3, z4, _⟩ := Row.all5 T.out.box
        have QQ := hide T.out
        by_cases hG0 : G = 0
        · have t1 : decide (G = 0) = true := by simp [hG0]
          have t3 : ((G : Int) == 0) = true := by simp [hG0]
          have hret := hide (hfin0.out dj hrem2.out hG0 _ T.out)
          clear hrem2 hG0
          go_wp2
          go_ret
          exact hret.out
        · have t1 : decide (G = 0) = false := by simp [hG0]
          have t3 : ((G : Int) == 0) = false := by simp; omega
          have hs2 := hide (fun (w2 : World) (T : Tq X w w2 p dj w.heap.size 82 #[v, .int .i64 G, .int .i64 K, .int .i64 U, .int .i64 N]) => (sync_q (nm := segN G K) T.q (by unfold maxLen; omega)).mono (R' := fun e w3 => e = .returned (.int .i64 (synE dj (segN G K))) ∧ Tq X w w3 p (synS dj (segN G K)) w.heap.size 82 #[v, .int .i64 G, .int .i64 K, .int .i64 U, .int .i64 N]) fun e w3 ⟨h1, h2, h3⟩ => ⟨h1, T.turn h2 h3⟩)
          have hret := hide (fun w3 T3 => hfin1.out dj hrem2.out hG0 w3 T3)
          clear hrem2 hG0
          generalize synE dj (segN G K) = er at *
          generalize synS dj (segN G K) = dr at *
          generalize segN G K = sn at *
          go_wp2_with (first
            | (go_at_call 79; (with_reducible refine (hn.out _).mono ?_); rintro e w2 ⟨rfl, hb⟩; (have QN := hide (QQ.out.below hb)); clear QQ hb; (have QQ := QN); clear QN)
            | (go_at_call 81; (with_reducible refine (hs2.out _ QQ.out).mono ?_); rintro e w2 ⟨rfl, hT⟩; (have QN := hide hT); clear QQ hT; (have QQ := QN); clear QN))
          go_ret
          exact hret.out _ QQ.out
end Go.Proofs.YtkmcnhjfnjikaaaGreatDoor
/- What package wal's mayBe and frames come to. Conditions: the records lie in memory, their lengths have room. -/
namespace Go.Proofs.YtkmcnhjfnjikaaaGreatDoor
open Go.RowKit Go.Maps
/-- From A on there lie slices of these lists of bytes, all of it in blocks of Y. -/
structure Recs (Y : Nat → Prop) (w : World) (A : Option Addr) (c : Nat) (L : List (List Int)) : Prop where
  le : L.length ≤ c
  oct : ∀ p, p ∈ L → Octets p
  at' : ∀ (j : Nat) (p : List Int), L[j]? = some p → ∃ b off, A = some ⟨b, off, none⟩ ∧ Y b ∧ b < w.heap.size ∧ ∃ A' c', w.cell? ⟨b, off + j, none⟩ = some (.slice A' p.length c') ∧ El w p A' c' ∧ (0 < p.length → ∀ a, A' = some a → Y a.block ∧ a.block < w.heap.size)
theorem Recs.below {Y : Nat → Prop} {w w' : World} {A : Option Addr} {c : Nat} {L : List (List Int)} (h : Recs Y w A c L) (hb : Below w.heap.size w w') : Recs Y w' A c L := ⟨h.le, h.oct, fun j p hj => by
  obtain ⟨b, off, e, hY, hlt, A', c', hc, hl, hf⟩ := h.at' j p hj
  exact ⟨b, off, e, hY, Nat.lt_of_lt_of_le hlt hb.size, A', c', (hb.cell (p := ⟨b, off + j, none⟩) hlt).trans hc, hl.below hb, fun h0 a ha => ⟨(hf h0 a ha).1, Nat.lt_of_lt_of_le (hf h0 a ha).2 hb.size⟩⟩⟩
theorem Recs.kx {X Y : Nat → Prop} {w w' : World} {A : Option Addr} {c : Nat} {L : List (List Int)} (h : Recs Y w A c L) (hk : Kx X w w') (hs : ∀ k, Y k → X k) : Recs Y w' A c L := ⟨h.le, h.oct, fun j p hj => by
  obtain ⟨b, off, e, hY, hlt, A', c', hc, hl, hf⟩ := h.at' j p hj
  exact ⟨b, off, e, hY, Nat.lt_of_lt_of_le hlt hk.size, A', c', (World.cell?_of_block (a := ⟨b, off + j, none⟩) (hk.same (hs _ hY) hlt)).trans hc,
    ⟨hl.lies.kx hk (fun h0 a ha => hs _ (hf h0 a ha).1), hl.le, hl.nil⟩, fun h0 a ha => ⟨(hf h0 a ha).1, Nat.lt_of_lt_of_le (hf h0 a ha).2 hk.size⟩⟩⟩
theorem Recs.mono {Y Z : Nat → Prop} {w : World} {A : Option Addr} {c : Nat} {L : List (List Int)} (h : Recs Y w A c L) (hs : ∀ k, Y k → k < w.heap.size → Z k) : Recs Z w A c L := ⟨h.le, h.oct, fun j p hj => by
  obtain ⟨b, off, e, hY, hlt, A', c', hc, hl, hf⟩ := h.at' j p hj
  exact ⟨b, off, e, hs _ hY hlt, hlt, A', c', hc, hl, fun h0 a ha => ⟨hs _ (hf h0 a ha).1 (hf h0 a ha).2, (hf h0 a ha).2⟩⟩⟩
theorem Recs.of_parts {base : Nat} {w : World} {A : Option Addr} {c : Nat} {L : List (List Int)} (h : PartsN base w A L) (hc : L.length ≤ c) (ho : ∀ p, p ∈ L → Octets p) : Recs (fun k => base ≤ k) w A c L := ⟨hc, ho, fun j p hj => by
  obtain ⟨b, off, e, hY, hlt, A', c', hc, hl, hf⟩ := h j p hj
  exact ⟨b, off, e, hY, hlt, A', c', hc, hl, fun _ => hf⟩⟩
theorem mayB_take {F : List (List Int)} {j : Nat} {p : List Int} (hp : F[j]? = some p) : mayB (F.take (j + 1)) = (mayB (F.take j) && (decide (1 ≤ p.length) && decide (p.length ≤ 16384))) := by
  unfold mayB
  rw [List.take_add_one, hp]
  simp
theorem mayB_bad {F : List (List Int)} {j : Nat} {p : List Int} (hp : F[j]? = some p) (h : ¬ (1 ≤ p.length ∧ p.length ≤ 16384)) : mayB F = false := by
  cases hm : mayB F with
  | false => rfl
  | true =>
    unfold mayB at hm
    have := List.all_eq_true.1 hm p (List.mem_of_getElem? hp)
    simp only [Bool.and_eq_true, decide_eq_true_eq] at this
    exact absurd this h
set_option maxRecDepth 100000 in
set_option maxHeartbeats 1000000 in
theorem mayB_any {Y : Nat → Prop} {A : Option Addr} {n c : Nat} {F : List (List Int)} {w : World} (h : Recs Y w A c F) (hn : F.length = n) (hl : n ≤ 100000) (hs : ∀ p, p ∈ F → p.length ≤ 1000000) :
    Calls Tryz.prog 41 #[.slice A n c] w fun e w' => e = .returned (.bool (mayB F)) ∧ w = w' := by
  have h := hide h
  have hn' := hide hn
  go_enter Tryz.func41, Tryz.ntmps41
  go_wp2
  go_loopw [7] (fun i wr => ∃ (j : Nat), j ≤ n ∧ i = .int .i64 j ∧ wr = w ∧ Hid (mayB (F.take j) = true)) (fun i _ => n - (intOf i).toNat)
  case atStart => exact ⟨0, by omega, rfl, rfl, (show mayB (F.take 0) = true from rfl)⟩
  case round =>
    obtain ⟨j, hj, rfl, rfl, hm⟩ := hrel
    by_cases hlt : j < n
    · obtain ⟨p, hp⟩ : ∃ y, F[j]? = some y := ⟨F[j]'(by omega), List.getElem?_eq_getElem (by omega)⟩
      obtain ⟨b, off, rfl, _, hbl, A', c', hc, hel, _⟩ := h.out.at' j p hp
      have hpl := hs p (List.mem_of_getElem? hp)
      have hpo := hide hp
      obtain ⟨m, hmm⟩ : ∃ m, p.length = m := ⟨_, rfl⟩
      rw [hmm] at hc hpl
      have hmm := hide hmm
      clear hel hp
      by_cases h1 : m < 1
      · have t1 : decide ((m : Int) < 1) = true := by simp; omega
        have t2 : decide (m < 1) = true := by simp; omega
        have hF := hide (mayB_bad hpo.out (by rw [hmm.out]; omega))
        clear h1
        go_wp2
        go_ret
        exact ⟨by rw [hF.out]; rfl, rfl⟩
      · have t1 : decide ((m : Int) < 1) = false := by simp; omega
        have t2 : decide (m < 1) = false := by simp; omega
        by_cases h2 : 16384 < m
        · have t3 : decide ((16384 : Int) < (m : Int)) = true := by simp; omega
          have t4 : decide (16384 < m) = true := by simp; omega
          have hF := hide (mayB_bad hpo.out (by rw [hmm.out]; omega))
          clear h1 h2
          go_wp2
          go_ret
          exact ⟨by rw [hF.out]; rfl, rfl⟩
        · have t3 : decide ((16384 : Int) < (m : Int)) = false := by simp; omega
          have t4 : decide (16384 < m) = false := by simp; omega
          have hF := hide (show mayB (F.take (j + 1)) = true by rw [mayB_take hpo.out, hm.out, hmm.out]; simp; omega)
          clear h1 h2
          go_wp2
          go_roundw
          case rel => exact ⟨j + 1, by omega, by simp; try omega, by trivial, hF⟩
          case measure => simp [intOf]; omega
    · obtain rfl : j = n := by omega
      have hF := hide (show mayB F = true by have := hm.out; rwa [← hn, List.take_length] at this)
      clear hn
      go_wp2
      go_ret
      exact ⟨by rw [hF.out]; rfl, rfl⟩
theorem right_of {F : List (List Int)} (h : mayB F = true) (ho : ∀ p, p ∈ F → Octets p) : Right F := fun p hp => by
  unfold mayB at h
  have := List.all_eq_true.1 h p hp
  simp only [Bool.and_eq_true, decide_eq_true_eq] at this
  exact ⟨this, ho p hp⟩
theorem enc_take {F : List (List Int)} {j : Nat} {p : List Int} (hp : F[j]? = some p) : enc (F.take (j + 1)) = enc (F.take j) ++ frm p := by
  rw [List.take_add_one, hp, enc_append]
  simp [enc_cons, enc_nil]
theorem enc_len_le : ∀ {F : List (List Int)}, (∀ p, p ∈ F → p.length ≤ 16384) → (enc F).length ≤ 16390 * F.length
  | [], _ => by rw [enc_nil]; simp
  | p :: r, h => by
    have := enc_len_le (F := r) fun q hq => h q (List.mem_cons_of_mem _ hq)
    have := h p List.mem_cons_self
    rw [enc_cons, List.length_append, length_frm, List.length_cons]
    omega
set_option maxRecDepth 100000 in
set_option maxHeartbeats 1000000 in
theorem frames_any {Y : Nat → Prop} {A : Option Addr} {n c : Nat} {F : List (List Int)} {w : World} (h : Recs Y w A c F) (hn : F.length = n) (hl : n ≤ 100000) (hr : Right F) :
    Calls Tryz.prog 44 #[.slice A n c] w (Cloned w (enc F).length (enc F)) := by
  have h := hide h
  have hr := hide hr
  have hn' := hide hn
  obtain ⟨i0, hi, hz0, hz1, hz2⟩ := info_parts Tryz.info5
  go_enter Tryz.func44, Tryz.ntmps44
  go_wp2
  go_loopw [3, 8] (fun v i wr => ∃ (j : Nat), j ≤ n ∧ i = .int .i64 j ∧ Hid (wr.ownsRow w.heap.size 5 1 v (enc (F.take j)).length (cellsOf (enc (F.take j)))) ∧ Hid (Below w.heap.size w wr)) (fun _ i _ => n - (intOf i).toNat)
  case atStart => exact ⟨0, by omega, rfl, (show _ from World.ownsRow_nil _ _ _ _), hide (Below.refl _ _)⟩
  case round =>
    obtain ⟨j, hj, rfl, ho, hb⟩ := hrel
    by_cases hlt : j < n
    · obtain ⟨p, hp⟩ : ∃ y, F[j]? = some y := ⟨F[j]'(by omega), List.getElem?_eq_getElem (by omega)⟩
      obtain ⟨b, off, rfl, _, hbl, A', c', hc, hel, _⟩ := (h.out.below hb.out).at' j p hp
      have hrp := hide (hr.out p (List.mem_of_getElem? hp))
      have hpl := hrp.out.1.2
      have he := hide (enc_take hp)
      have hfr := hide (show putR [] p = frm p by unfold putR; rw [if_pos hrp.out.1]; rfl)
      have hlen := hide (show (enc (F.take j)).length ≤ 16390 * 100000 from by
        have := enc_len_le (F := F.take j) fun q hq => (hr.out q (List.mem_of_mem_take hq)).1.2
        rw [List.length_take] at this
        omega)
      obtain ⟨m, hmm⟩ : ∃ m, p.length = m := ⟨_, rfl⟩
      have hlf := hide (show (frm p).length = m + 6 by rw [length_frm]; omega)
      have hof := hide (octets_frm hrp.out.2)
      have hput := hide (fput_any none 0 0 [] A' m c' p wr rfl (fun h => absurd h (by simp)) (fun _ => rfl) (by omega) hmm hel.lies hel.nil hrp.out.2)
      rw [hmm] at hc hpl
      rw [hfr.out, hlf.out] at hput
      clear hel hp hrp hmm
      obtain ⟨k, hk⟩ : ∃ k, (enc (F.take j)).length = k := ⟨_, rfl⟩
      rw [hk] at ho hlen
      have hkk := hide hk
      clear hk
      generalize enc (F.take j) = zs at *
      generalize frm p = fp at *
      go_wp2_with (first
        | (go_at_call 45; (with_reducible refine hput.out.mono ?_); rintro e w1 ⟨A1, c1, rfl, o1, k1⟩; have o1' := hide o1; have k1' := hide k1; have l1 := hide (Lies.of_own o1); clear o1 k1)
        | (at_builtin; refine wpList_append_lies rfl (.tmp 12) (.tmp 14) 31 rfl w.heap.size 5 i0 _ Tryz.underlying31 hi hz0 hz1 hz2 rfl _ k zs rfl (own_below ho.out k1'.out) A1 (m + 6) c1 fp rfl hlf.out (own_nil o1'.out) l1.out (by have := hlen.out; omega) (Nat.le_trans hb.out.size k1'.out.size) ?_))
      intro v2 w2 o2 k2
      have ho2 := hide (show w2.ownsRow w.heap.size 5 1 v2 (enc (F.take (j + 1))).length (cellsOf (enc (F.take (j + 1)))) by
        rw [he.out, List.length_append, hkk.out, hlf.out]; exact o2)
      have hb2 := hide ((kept_trans hb.out k1'.out).trans k2)
      clear o2 k2 ho hb k1' o1' l1 hkk he hlen hlf
      go_wp2
      go_roundw
      case rel => exact ⟨j + 1, by omega, by simp; try omega, ho2, hb2⟩
      case measure => simp [intOf]; omega
    · obtain rfl : j = n := by omega
      have he := hide (show enc (F.take j) = enc F by rw [← hn, List.take_length])
      rw [he.out] at ho
      clear hn
      obtain ⟨A1, c1, rfl, hA1⟩ := own_shape ho.out
      go_wp2
      go_ret
      exact ⟨A1, c1, rfl, ho.out, hb.out⟩
end Go.Proofs.YtkmcnhjfnjikaaaGreatDoor
