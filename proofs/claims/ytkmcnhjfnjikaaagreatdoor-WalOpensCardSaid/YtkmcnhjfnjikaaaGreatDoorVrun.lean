/- What Open, Add and Anew come to on a disk that has nothing, or nothing but one generation. Conditions: the disk lies in memory as it must; numbers are small. -/
import Derived.Test.YtkmcnhjfnjikaaaGreatDoorVgoo
import Derived.Test.YtkmcnhjfnjikaaaGreatDoorWpn
import Derived.Test.YtkmcnhjfnjikaaaGreatDoorKtwi
import Derived.Test.YtkmcnhjfnjikaaaGreatDoorKpre
import Derived.BigQuiet
import Derived.Deep.QuietTactic
import Derived.Lib.SlBytesConst
namespace Go.Proofs.YtkmcnhjfnjikaaaGreatDoor
open Go.RowKit Go.Maps
theorem few_files {G : Nat} (hG : 1 ≤ G ∧ G < 100) : ∀ {K : Nat} {l : List Fl}, K < 100 → Up l → (∀ a, find a l ≠ none → ∃ k, (1 ≤ k ∧ k ≤ K) ∧ a = segN G k) → l.length ≤ K
  | 0, l, _, hu, h => by
    cases l with
    | nil => exact Nat.le_refl _
    | cons x r =>
      obtain ⟨k, hk, _⟩ := h x.nm (by rw [find_of_mem hu List.mem_cons_self]; simp)
      omega
  | K + 1, l, hK, hu, h => by
    have h1 := length_delF (segN G (K + 1)) l hu
    have h2 := few_files hG (K := K) (l := delF (segN G (K + 1)) l) (by omega) (up_delF hu) fun a ha => by
      rw [find_delF] at ha
      by_cases e : a = segN G (K + 1)
      · rw [if_pos e] at ha; exact absurd rfl ha
      · rw [if_neg e] at ha
        obtain ⟨k, hk, e2⟩ := h a ha
        refine ⟨k, ⟨hk.1, ?_⟩, e2⟩
        rcases Nat.lt_or_ge k (K + 1) with h3 | h3
        · omega
        · exact absurd (by rw [e2, show k = K + 1 by omega]) e
    split at h1 <;> omega
section
variable {d : DS} {G K : Nat} {F : Nat → List (List Int)}
theorem Gd.len (h : Gd d G K F) (hG : 1 ≤ G ∧ G < 100) (hK : K < 100) : d.l.length ≤ K := few_files hG hK h.up h.only
theorem Gd.sm (h : Gd d G K F) {m : Nat} (hG : 1 ≤ G ∧ G ≤ m) (hK : K ≤ m) (hm : m ≤ 60) : Sm m d.l :=
  ⟨by have := h.len ⟨hG.1, by omega⟩ (by omega); omega, fun f hf => by
    obtain ⟨k, hk, e⟩ := h.only f.nm (by rw [find_of_mem h.up hf]; simp)
    exact .inl ⟨G, k, hG, ⟨hk.1, by omega⟩, e⟩⟩
theorem op_empty (q : Int) : opE (newS q) = 0 ∧ opS (newS q) = newS q ∧ opG (newS q) = 0 ∧ (opZ (newS q)).k = 0 ∧ opL (newS q) = [] := by
  have hg : opG (newS q) = 0 := best_is (by omega) (fun h => absurd rfl h) fun j _ _ => whole_none rfl
  have hz : opZ (newS q) = Gs.zero := by unfold opZ; rw [if_pos hg]
  have h1 : op1E (newS q) = 0 := by unfold op1E; rw [hz]; rfl
  have h2 : op1S (newS q) = newS q := by unfold op1S; rw [hz]; rfl
  have h3 : op2 (newS q) = (0, newS q) := by unfold op2; rw [h2]; rfl
  refine ⟨?_, ?_, hg, by rw [hz]; rfl, by unfold opL; rw [hz]; rfl⟩
  · unfold opE; rw [h1, h3, hg]; rfl
  · unfold opS; rw [h1, h3, hg]; rfl
end
/-- A Wal, and what was there before, in a world behind W. -/
structure Wl (W w : World) (p g : Nat) (d : DS) (x : WS) : Prop where
  low : Below W.heap.size W w
  q : Wq (fun k => k < W.heap.size) w p g d x
section
variable {W w w' : World} {p g : Nat} {d d' : DS} {x x' : WS}
theorem Wl.below (h : Wl W w p g d x) (hb : Below w.heap.size w w') : Wl W w' p g d x := ⟨kept_trans h.low hb, h.q.below hb⟩
theorem Wl.disk (h : Wl W w p g d x) : Lw W (fun k => k < W.heap.size) w g d := ⟨h.low, h.q.q.less fun _ hk => .inl hk, fun _ hk => hk⟩
theorem Wl.of {X : Nat → Prop} {v : Int} {e : Ending} {w1 : World} (low : Below W.heap.size W w) (hX : ∀ k, k < W.heap.size → X k) (h : WqP X w p g v d x e w1) : e = .returned (.int .i64 v) ∧ Wl W w1 p g d x :=
  ⟨h.1, low.trans (h.2.2.below low.size hX), h.2.1.less fun k hk => hX k hk⟩
def WlP (W : World) (p g : Nat) (v : Int) (d : DS) (x : WS) (e : Ending) (w' : World) : Prop := e = .returned (.int .i64 v) ∧ Wl W w' p g d x
theorem Wl.add {Y : Nat → Prop} {w1 : World} {A : Option Addr} {n c : Nat} {F : List (List Int)} {v : Int} (h : Wl W w p g d x) (hb : Below w.heap.size w w1) (hr : Recs Y w1 A c F) (hY : ∀ k, Y k → k < W.heap.size ∨ (w.heap.size ≤ k ∧ k < w1.heap.size)) (hn : F.length = n) (hl : n ≤ 100000) (hs : ∀ q, q ∈ F → q.length ≤ 1000000)
    (hG : x.G < 99) (hK : x.K < 99) (hln : d.l.length ≤ 80) (hx : adE d x F = v ∧ adS d x F = d' ∧ adW d x F = x') :
    Calls Tryz.prog 12 #[.pointer (some ⟨p, 0, none⟩), .slice A n c] w1 (WlP W p g v d' x') := by
  obtain ⟨rfl, rfl, rfl⟩ := hx
  have hq := h.q.more (Y := fun k => k < W.heap.size ∨ (w.heap.size ≤ k ∧ k < w1.heap.size)) hb fun k hk => hk
  exact (add_any hq (by omega) hK (by omega) hr hY hn hl hs).mono fun e w2 h2 => Wl.of (kept_trans h.low hb) (fun k hk => .inl hk) h2
theorem Wl.anew {Y : Nat → Prop} {w1 : World} {A : Option Addr} {n c : Nat} {F : List (List Int)} {v : Int} (h : Wl W w p g d x) (hb : Below w.heap.size w w1) (hr : Recs Y w1 A c F) (hY : ∀ k, Y k → k < W.heap.size ∨ (w.heap.size ≤ k ∧ k < w1.heap.size)) (hn : F.length = n) (hl : n ≤ 100000) (hs : ∀ q, q ∈ F → q.length ≤ 1000000)
    (hG : x.G < 99) (hln : d.l.length ≤ 80) (hx : anE d x F = v ∧ anS d x F = d' ∧ anW d x F = x') :
    Calls Tryz.prog 13 #[.pointer (some ⟨p, 0, none⟩), .slice A n c] w1 (WlP W p g v d' x') := by
  obtain ⟨rfl, rfl, rfl⟩ := hx
  have hq := h.q.more (Y := fun k => k < W.heap.size ∨ (w.heap.size ≤ k ∧ k < w1.heap.size)) hb fun k hk => hk
  exact (anew_any hq hG hln hr hY hn hl hs).mono fun e w2 h2 => Wl.of (kept_trans h.low hb) (fun k hk => .inl hk) h2
/-- Open, where it has no error. -/
def OlP (W w : World) (g : Nat) (d : DS) (x : WS) (L : List (List Int)) (e : Ending) (w' : World) : Prop :=
  ∃ (P : Nat) (A : Option Addr) (c : Nat), e = .returned (.tuple #[.pointer (some ⟨P, 0, none⟩), .slice A L.length c, .int .i64 0]) ∧ Wl W w' P g d x ∧ Recs (fun k => w.heap.size ≤ k) w' A c L
theorem open_l {m : Nat} {L : List (List Int)} (h : Lw W (fun k => k < W.heap.size) w g d) (hs : Sm m d.l) (hm : m ≤ 60) (h1 : opE d = 0) (h2 : opS d = d') (h3 : (⟨opG d, (opZ d).k, false⟩ : WS) = x) (h4 : opL d = L) :
    Calls Tryz.prog 11 #[.pointer (some ⟨g, 0, none⟩)] w (OlP W w g d' x L) := by
  subst h2 h3 h4
  refine (open_any h.q hs hm).mono fun e w2 h2 => ?_
  obtain ⟨hk, ⟨h5, _⟩ | ⟨_, P, A, c, Z, rfl, hP, hZ, hq, hr⟩⟩ := h2
  · exact absurd h1 h5
  · exact ⟨P, A, c, rfl, ⟨h.low.trans (hk.below h.low.size fun k hk => hk), hq.less fun k hk => .inl hk⟩, hr.mono fun k hk _ => (hZ k hk).1⟩
end
/-- Records written out: their row, and each. -/
theorem recs_row {lo : Nat} {w : World} {B : Nat} {t : TypeId} {vs : List Value} {L : List (List Int)} {c : Nat} (R : Row w B t vs.toArray) (hlo : lo ≤ B) (hc : L.length ≤ c) (ho : ∀ p, p ∈ L → Octets p)
    (h : ∀ (j : Nat) (p : List Int), L[j]? = some p → ∃ A' c', vs[j]? = some (.slice A' p.length c') ∧ El w p A' c' ∧ ∀ a, A' = some a → lo ≤ a.block ∧ a.block < w.heap.size) :
    Recs (fun k => lo ≤ k ∧ k < w.heap.size) w (some ⟨B, 0, none⟩) c L := ⟨hc, ho, fun j p hj => by
  obtain ⟨A', c', e, hl, ha⟩ := h j p hj
  exact ⟨B, 0, rfl, ⟨hlo, R.lt⟩, R.lt, A', c', by rw [Nat.zero_add, R.cell j, ← e]; simp, hl, fun _ a h2 => ⟨ha a h2, (ha a h2).2⟩⟩⟩
theorem el_lit (w : World) (a : Int) (fr : Nat × Nat) : El (w.alloc (.cells #[.int .u8 a] 5 fr)) [a] (some ⟨w.heap.size, 0, none⟩) 1 := ⟨lies_lit w [a] 5 fr, Nat.le_refl _, fun h => by cases h⟩
theorem octs1 {a : Int} (ha : 0 ≤ a ∧ a ≤ 255) : Octets [a] := fun z hz => by rcases List.mem_singleton.1 hz with rfl; omega
theorem recs1 (w : World) (a : Int) (fr : Nat × Nat) (ha : 0 ≤ a ∧ a ≤ 255) : Recs (fun k => w.heap.size ≤ k ∧ k < ((w.alloc (.cells #[.int .u8 a] 5 fr)).alloc (.cells #[.slice (some ⟨w.heap.size, 0, none⟩) 1 1] 31)).heap.size)
    ((w.alloc (.cells #[.int .u8 a] 5 fr)).alloc (.cells #[.slice (some ⟨w.heap.size, 0, none⟩) 1 1] 31)) (some ⟨w.heap.size + 1, 0, none⟩) 1 [[a]] := by
  refine recs_row (vs := [.slice (some ⟨w.heap.size, 0, none⟩) 1 1]) (row_new' _ _ _ _ (by simp)) (by omega) (Nat.le_refl _) (fun p hp => by rcases List.mem_singleton.1 hp with rfl; exact octs1 ha) fun j p hj => ?_
  rcases j with _ | j
  · simp at hj
    subst hj
    exact ⟨_, _, rfl, (el_lit w a fr).alloc _, fun x hx => by injection hx with hx; subst hx; simp; omega⟩
  · simp at hj
theorem recs2 (w : World) (a b : Int) (fr : Nat × Nat) (ha : 0 ≤ a ∧ a ≤ 255) (hb : 0 ≤ b ∧ b ≤ 255) : Recs (fun k => w.heap.size ≤ k ∧ k < (((w.alloc (.cells #[.int .u8 a] 5 fr)).alloc (.cells #[.int .u8 b] 5 fr)).alloc (.cells #[.slice (some ⟨w.heap.size, 0, none⟩) 1 1, .slice (some ⟨w.heap.size + 1, 0, none⟩) 1 1] 31)).heap.size)
    (((w.alloc (.cells #[.int .u8 a] 5 fr)).alloc (.cells #[.int .u8 b] 5 fr)).alloc (.cells #[.slice (some ⟨w.heap.size, 0, none⟩) 1 1, .slice (some ⟨w.heap.size + 1, 0, none⟩) 1 1] 31)) (some ⟨w.heap.size + 1 + 1, 0, none⟩) 2 [[a], [b]] := by
  refine recs_row (vs := [.slice (some ⟨w.heap.size, 0, none⟩) 1 1, .slice (some ⟨w.heap.size + 1, 0, none⟩) 1 1]) (row_new' _ _ _ _ (by simp)) (by omega) (Nat.le_refl _) (fun p hp => by
    rcases List.mem_cons.1 hp with rfl | hp
    · exact octs1 ha
    · rcases List.mem_singleton.1 hp with rfl; exact octs1 hb) fun j p hj => ?_
  have e2 := el_lit (w.alloc (.cells #[.int .u8 a] 5 fr)) b fr
  rw [show (w.alloc (.cells #[.int .u8 a] 5 fr)).heap.size = w.heap.size + 1 by simp] at e2
  rcases j with _ | _ | j
  · simp at hj
    subst hj
    exact ⟨_, _, rfl, ((el_lit w a fr).alloc _).alloc _, fun x hx => by injection hx with hx; subst hx; simp; omega⟩
  · simp at hj
    subst hj
    exact ⟨_, _, rfl, e2.alloc _, fun x hx => by injection hx with hx; subst hx; simp⟩
  · simp at hj
theorem recs0 (Y : Nat → Prop) (w : World) : Recs Y w none 0 [] := ⟨Nat.le_refl _, fun p hp => by (cases hp), fun j p hj => by simp at hj⟩
end Go.Proofs.YtkmcnhjfnjikaaaGreatDoor
/- What texts comes to at three records of one byte. Conditions: they lie in memory. -/
namespace Go.Proofs.YtkmcnhjfnjikaaaGreatDoor
open Go.RowKit Go.Maps
def abc : List (List Int) := [[97], [98], [99]]
theorem abc_at {Y : Nat → Prop} {w : World} {A : Option Addr} {c : Nat} (h : Recs Y w A c abc) (j : Nat) (p : Int) (hj : abc[j]? = some [p]) :
    ∃ b off b' off' c', A = some ⟨b, off, none⟩ ∧ w.cell? ⟨b, off + j, none⟩ = some (.slice (some ⟨b', off', none⟩) 1 c') ∧ ∀ q, (convert 31 9 (.slice (some ⟨b', off', none⟩) 1 c')).run Tryz.prog (w.drewN q) = .ok (.string (strOf [p])) (w.drewN q) := by
  obtain ⟨b, off, e, _, _, A', c', hc, hl, _⟩ := h.at' j [p] hj
  obtain ⟨b', off', e2, _, h2⟩ := hl.lies (by simp)
  subst e2
  exact ⟨b, off, b', off', c', e, hc, fun q => conv_any (w := w.drewN q) rfl (fun hn => hl.lies hn)⟩
set_option maxRecDepth 100000 in
set_option maxHeartbeats 1000000 in
theorem texts_abc {Y : Nat → Prop} {w : World} {A : Option Addr} {c B : Nat} (h : Recs Y w A c abc) (hB : Row w B 9 #[.string ⟨#[97]⟩, .string ⟨#[98]⟩, .string ⟨#[99]⟩]) :
    Calls Tryz.prog 14 #[.slice A 3 c, .slice (some ⟨B, 0, none⟩) 3 3] w fun e w' => e = .returned (.bool true) ∧ Below w.heap.size w w' := by
  obtain ⟨b, off, b1, o1, k1, rfl, c0, d0⟩ := abc_at h 0 97 rfl
  obtain ⟨_, _, b2, o2, k2, e, c1, d1⟩ := abc_at h 1 98 rfl
  injection e with e; injection e with e1 e2; subst e1 e2
  obtain ⟨_, _, b3, o3, k3, e, c2, d2⟩ := abc_at h 2 99 rfl
  injection e with e; injection e with e1 e2; subst e1 e2
  have s0 := hB.cell 0
  have s1 := hB.cell 1
  have s2 := hB.cell 2
  simp only [List.getElem?_toArray, List.getElem?_cons_zero, List.getElem?_cons_succ] at s0 s1 s2
  rw [show strOf [97] = ⟨#[97]⟩ from rfl] at d0
  rw [show strOf [98] = ⟨#[98]⟩ from rfl] at d1
  rw [show strOf [99] = ⟨#[99]⟩ from rfl] at d2
  clear h hB
  go_enter Tryz.func14, Tryz.ntmps14
  go_wp2
  simp only [Nat.add_zero] at c0
  go_loopw [5] (fun i wr => ∃ (j : Int) (q : Nat), (j = 0 ∨ j = 1 ∨ j = 2 ∨ j = 3) ∧ i = .int .i64 j ∧ wr = w.drewN q) (fun i _ => 3 - (intOf i).toNat)
  case atStart => exact ⟨0, 0, .inl rfl, rfl, rfl⟩
  case round =>
    obtain ⟨j, q, hj, rfl, rfl⟩ := hrel
    rcases hj with rfl | rfl | rfl | rfl
    · go_upto_region 6 with (fail)
      go_region
      go_wp2
      go_roundw
      case rel => exact ⟨1, q + 1, by simp, rfl, rfl⟩
      case measure => simp [intOf]
    · go_upto_region 6 with (fail)
      go_region
      go_wp2
      go_roundw
      case rel => exact ⟨2, q + 1, by simp, rfl, rfl⟩
      case measure => simp [intOf]
    · go_upto_region 6 with (fail)
      go_region
      go_wp2
      go_roundw
      case rel => exact ⟨3, q + 1, by simp, rfl, rfl⟩
      case measure => simp [intOf]
    · go_wp2
      go_ret
      exact ⟨rfl, below_drewN' (Below.refl w.heap.size w) q⟩
end Go.Proofs.YtkmcnhjfnjikaaaGreatDoor
/- WalRuns: chapter 10's runs. No condition. -/
namespace Go.Proofs.YtkmcnhjfnjikaaaGreatDoor
open Go.RowKit Go.Maps
/-- What the runs come to, without a program. -/
structure RunsP (d1 d2 d3 : DS) (F : Nat → List (List Int)) : Prop where
  x : adE (newS 9999) ⟨0, 0, false⟩ [[120]] = 8 ∧ adS (newS 9999) ⟨0, 0, false⟩ [[120]] = newS 9999 ∧ adW (newS 9999) ⟨0, 0, false⟩ [[120]] = ⟨0, 0, false⟩
  y : anE (newS 9999) ⟨0, 0, false⟩ [[97], [98]] = 0 ∧ anS (newS 9999) ⟨0, 0, false⟩ [[97], [98]] = d1 ∧ anW (newS 9999) ⟨0, 0, false⟩ [[97], [98]] = ⟨1, 1, false⟩
  z : adE d1 ⟨1, 1, false⟩ [[99]] = 0 ∧ adS d1 ⟨1, 1, false⟩ [[99]] = d2 ∧ adW d1 ⟨1, 1, false⟩ [[99]] = ⟨1, 1, false⟩
  u : anE d2 ⟨1, 1, false⟩ [] = 0 ∧ anS d2 ⟨1, 1, false⟩ [] = d3 ∧ anW d2 ⟨1, 1, false⟩ [] = ⟨2, 1, false⟩
  g1 : Gd d1 1 1 (fun _ => anF [[97], [98]])
  g2 : Gd d2 1 1 F
  g3 : Gd d3 2 1 (fun _ => anF [])
  o2 : (cat F 1).tail = abc
theorem runs_p : ∃ d1 d2 d3 F, RunsP d1 d2 d3 F := by
  have o1 : ∀ p, p ∈ [[(97 : Int)], [98]] → Octets p := fun p hp => by
    rcases List.mem_cons.1 hp with rfl | hp
    · exact octs1 (by omega)
    · rcases List.mem_singleton.1 hp with rfl; exact octs1 (by omega)
  have l2 := num7_len (([[(97 : Int)], [98]] : List (List Int)).length : Nat)
  have l0 := num7_len (([] : List (List Int)).length : Nat)
  have e1 : (enc (anF [[(97 : Int)], [98]])).length = (num7 (([[(97 : Int)], [98]] : List (List Int)).length : Nat)).length + 6 + 14 := by
    unfold anF
    rw [enc_cons, enc_cons, enc_cons, enc_nil]
    simp only [List.length_append, length_frm, List.length_nil, List.length_cons]
  have e0 : (enc (anF [])).length = (num7 (([] : List (List Int)).length : Nat)).length + 6 := by
    unfold anF
    rw [enc_cons, enc_nil]
    simp only [List.length_append, length_frm, List.length_nil]
  have e9 : (enc [[(99 : Int)]]).length = 7 := by rw [enc_one, length_frm]; rfl
  have y := (Od.empty 9999).anew (new := [[97], [98]]) (by omega) (by omega) (by decide) o1 (by decide) (by show ((0 : Nat) : Int) + _ ≤ (9999 : Int); omega)
  have hq1 : (anS ⟨9999, [], -1, false⟩ ⟨0, 0, false⟩ [[97], [98]]).q = 9999 := y.q
  obtain ⟨K', F', z⟩ := y.g.add (new := [[99]]) (by omega) (by omega) (by decide) (fun p hp => by rcases List.mem_singleton.1 hp with rfl; exact octs1 (by omega)) (by rw [y.tot, hq1]; omega)
  have hn := z.next (by simp)
  rw [if_neg (by omega)] at hn
  subst hn
  have u := (z.g.old (by omega)).anew (new := []) (by omega) (by omega) (by decide) (fun p hp => by cases hp) (by decide) (by rw [z.tot, z.q, y.tot, hq1]; omega)
  have x := adE_refused (d := newS 9999) (x := ⟨0, 0, false⟩) (F := [[120]]) (by decide)
  refine ⟨_, _, _, F', ⟨⟨?_, x.2⟩, ⟨y.e, rfl, y.w⟩, ⟨z.e, rfl, z.w⟩, ⟨u.e, rfl, u.w⟩, y.g, z.g, u.g, ?_⟩⟩
  · rw [x.1]; rfl
  · rw [z.cat]; rfl
theorem below_two (w : World) (o o2 : Obj) : Below w.heap.size w ((w.alloc o).alloc o2) := (below_alloc' w o).alloc (by simp) o2
theorem below_three (w : World) (o o2 o3 : Obj) : Below w.heap.size w (((w.alloc o).alloc o2).alloc o3) := (below_two w o o2).alloc (by simp; omega) o3
set_option maxRecDepth 100000 in
set_option maxHeartbeats 2000000 in
theorem runs_any (W : World) : Calls Tryz.prog 3 #[] W fun e w' => e = .returned (.bool true) ∧ Below W.heap.size W w' := by
  obtain ⟨d1, d2, d3, F, H⟩ := runs_p
  have c0 := hide (new_q 9999 W (by omega))
  have oe := op_empty 9999
  have c1 := hide (fun (w : World) (g : Nat) (h : Lw W (fun k => k < W.heap.size) w g (newS 9999)) => open_l (m := 60) (x := ⟨0, 0, false⟩) (L := []) h ⟨Nat.zero_le _, fun f hf => by (cases hf)⟩ (by omega) oe.1 oe.2.1 (by rw [oe.2.2.1, oe.2.2.2.1]) oe.2.2.2.2)
  have c2 := hide (fun (w : World) (p g : Nat) (h : Wl W w p g (newS 9999) ⟨0, 0, false⟩) => h.add (n := 1) (below_two w _ _) (recs1 w 120 (1, 2) (by omega)) (fun k hk => .inr hk) rfl (by decide) (fun q hq => by rcases List.mem_singleton.1 hq with rfl; decide) (by decide) (by decide) (by decide) H.x)
  have c3 := hide (fun (w : World) (p g : Nat) (h : Wl W w p g (newS 9999) ⟨0, 0, false⟩) => h.anew (n := 2) (below_three w _ _ _) (recs2 w 97 98 (1, 2) (by omega) (by omega)) (fun k hk => .inr hk) rfl (by decide) (fun q hq => by rcases List.mem_cons.1 hq with rfl | hq; decide; rcases List.mem_singleton.1 hq with rfl; decide) (by decide) (by decide) H.y)
  have c4 := hide (fun (w : World) (p g : Nat) (h : Wl W w p g d1 ⟨1, 1, false⟩) => h.add (n := 1) (below_two w _ _) (recs1 w 99 (1, 2) (by omega)) (fun k hk => .inr hk) rfl (by decide) (fun q hq => by rcases List.mem_singleton.1 hq with rfl; decide) (by decide) (by decide) (by have := H.g1.len (by omega) (by omega); omega) H.z)
  have o5 := H.g2.open (by omega) (by omega)
  have c5 : Hid (∀ (w : World) (g : Nat), Lw W (fun k => k < W.heap.size) w g d2 → Calls Tryz.prog 11 #[.pointer (some ⟨g, 0, none⟩)] w fun e w' => ∃ (P : Nat) (A : Option Addr) (c : Nat), e = .returned (.tuple #[.pointer (some ⟨P, 0, none⟩), .slice A 3 c, .int .i64 0]) ∧ Wl W w' P g d2 ⟨1, 1, false⟩ ∧ Recs (fun k => w.heap.size ≤ k) w' A c abc) :=
    hide (fun w g h => open_l (m := 60) (x := ⟨1, 1, false⟩) (L := abc) h (H.g2.sm (by omega) (by omega) (by omega)) (by omega) o5.1 o5.2.1 (by rw [H.g2.opG (by omega) (by omega), H.g2.opZ (by omega) (by omega)]) (by rw [o5.2.2, H.o2]))
  have c6 := hide (fun (w : World) (p g : Nat) (h : Wl W w p g d2 ⟨1, 1, false⟩) => h.anew (n := 0) (Below.refl _ _) (recs0 (fun k => w.heap.size ≤ k ∧ k < w.heap.size) w) (fun k hk => .inr hk) rfl (by decide) (fun q hq => by (cases hq)) (by decide) (by have := H.g2.len (by omega) (by omega); omega) H.u)
  have o7 := H.g3.open (by omega) (by omega)
  have c7 := hide (fun (w : World) (g : Nat) (h : Lw W (fun k => k < W.heap.size) w g d3) => open_l (m := 60) (x := ⟨2, 1, false⟩) (L := []) h (H.g3.sm (by omega) (by omega) (by omega)) (by omega) o7.1 o7.2.1 (by rw [H.g3.opG (by omega) (by omega), H.g3.opZ (by omega) (by omega)]) (by rw [o7.2.2]; rfl))
  have c8 := hide (fun (w : World) (p g : Nat) (d : DS) (x : WS) (h : Wl W w p g d x) => where_any h.q)
  clear oe o5 o7 H
  have kc := fun (w : World) (C : Array Value) (n c : Nat) => Lib.run_convert_bytes_const (P := Tryz.prog) w 31 5 C n c Tryz.underlying31 Tryz.underlying5
  have kd := fun (w : World) (o : Obj) (C : Array Value) (n c : Nat) => (show (w.alloc o).heap.size = w.heap.size + 1 by simp) ▸ Lib.run_convert_bytes_const (P := Tryz.prog) (w.alloc o) 31 5 C n c Tryz.underlying31 Tryz.underlying5
  go_enter Tryz.func3, Tryz.ntmps3
  go_wp2_with (first
    | (go_at_call 10; (with_reducible refine c0.out.mono ?_); rintro e w1 ⟨g, rfl, hq1, hb1⟩; (have S0 := hide (Lw.start hq1 hb1)); clear hq1 hb1)
    | (go_at_call 11; (with_reducible refine (c1.out _ _ S0.out).mono ?_); rintro e w2 ⟨P, A1, n1, rfl, hS, -⟩; (have S1 := hide hS); clear hS S0)
    | (go_at_call 12; (with_reducible refine (c2.out _ _ _ S1.out).mono ?_); rintro e w3 ⟨rfl, hS⟩; (have S2 := hide hS); clear hS S1)
    | (go_at_call 13; (with_reducible refine (c3.out _ _ _ S2.out).mono ?_); rintro e w4 ⟨rfl, hS⟩; (have S3 := hide hS); clear hS S2)
    | (go_at_call 12; (with_reducible refine (c4.out _ _ _ S3.out).mono ?_); rintro e w5 ⟨rfl, hS⟩; (have S4 := hide hS); clear hS S3)
    | (go_at_call 11; (with_reducible refine (c5.out _ _ S4.out.disk).mono ?_); rintro e w6 ⟨P2, A2, n2, rfl, hS, hR⟩; (have S5 := hide hS); (have R5 := hide hR); clear hS hR S4)
    | (go_at_call 14; (with_reducible refine (texts_abc (R5.out.below (below_alloc' _ _)) (Row.new _ _ _)).mono ?_); rintro e w7 ⟨rfl, hb⟩; (have S6 := hide (S5.out.below (kept_trans (below_alloc' _ _) hb))); clear hb S5 R5)
    | (go_at_call 15; (with_reducible refine (c8.out _ _ _ _ _ S6.out).mono ?_); rintro e w8 ⟨rfl, hb⟩; (have S7 := hide (S6.out.below hb)); clear hb S6)
    | (go_at_call 13; (with_reducible refine (c6.out _ _ _ S7.out).mono ?_); rintro e w9 ⟨rfl, hS⟩; (have S8 := hide hS); clear hS S7)
    | (go_at_call 15; (with_reducible refine (c8.out _ _ _ _ _ S8.out).mono ?_); rintro e w10 ⟨rfl, hb⟩; (have S9 := hide (S8.out.below hb)); clear hb S8)
    | (go_at_call 11; (with_reducible refine (c7.out _ _ S9.out.disk).mono ?_); rintro e w11 ⟨P3, A3, n3, rfl, hS, -⟩; (have S10 := hide hS); clear hS S9)
    | (go_at_call 11; (with_reducible refine (open_nil _).mono ?_); rintro e w12 ⟨rfl, rfl⟩))
  go_ret
  exact ⟨rfl, S10.out.low⟩
end Go.Proofs.YtkmcnhjfnjikaaaGreatDoor
