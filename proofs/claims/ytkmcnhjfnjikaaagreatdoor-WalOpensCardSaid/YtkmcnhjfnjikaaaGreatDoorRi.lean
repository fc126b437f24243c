/- The document's Open, without a program: which generation it takes, what it removes. No condition. -/
import Derived.Test.YtkmcnhjfnjikaaaGreatDoorRfnd
import Derived.Test.YtkmcnhjfnjikaaaGreatDoorWpn
import Derived.LoopTactic
namespace Go.Proofs.YtkmcnhjfnjikaaaGreatDoor
open Go.RowKit Go.Maps
/-- The cut's place; -1: none. -/
def cutI (s : Gs) : Int := if s.u < s.n then (s.u : Int) else -1
/-- What was chosen of some names. -/
structure Lo (l : List Fl) (ns : List ByteArray) (G K : Nat) (L : List (List Int)) (E : Int) : Prop where
  c : (G = 0 ∧ K = 0 ∧ L = [] ∧ E = -1) ∨ ((1 ≤ G ∧ G < 100) ∧ whole l G = true ∧ K = (gen l G).k ∧ L = (gen l G).L.tail ∧ E = cutI (gen l G))
  most : ∀ s, s ∈ ns → ∀ g, segOf s = (g, 1) → whole l g = true → g ≤ G
section
variable {l : List Fl} {ns : List ByteArray} {G K g : Nat} {L : List (List Int)} {E : Int} {s : ByteArray}
theorem Lo.start (l : List Fl) : Lo l [] 0 0 [] (-1) := ⟨.inl ⟨rfl, rfl, rfl, rfl⟩, fun s h => by cases h⟩
theorem Lo.skip (h : Lo l ns G K L E) (hs : ∀ g, segOf s = (g, 1) → whole l g = true → g ≤ G) : Lo l (ns ++ [s]) G K L E := ⟨h.c, fun t ht g e hw => by
  rcases List.mem_append.1 ht with ht | ht
  · exact h.most t ht g e hw
  · rcases List.mem_singleton.1 ht with rfl; exact hs g e hw⟩
theorem Lo.take (h : Lo l ns G K L E) (hs : segOf s = (g, 1)) (hg : 1 ≤ g ∧ g < 100) (hG : G < g) (hw : whole l g = true) : Lo l (ns ++ [s]) g (gen l g).k (gen l g).L.tail (cutI (gen l g)) := ⟨.inr ⟨hg, hw, rfl, rfl, rfl⟩, fun t ht j e hj => by
  rcases List.mem_append.1 ht with ht | ht
  · have := h.most t ht j e hj; omega
  · rcases List.mem_singleton.1 ht with rfl
    rw [hs] at e; injection e with e; omega⟩
theorem whole_found {l : List Fl} {g : Nat} (h : whole l g = true) : ∃ x, find (segN g 1) l = some x := by
  cases hf : find (segN g 1) l with
  | none => rw [whole_none hf] at h; cases h
  | some x => exact ⟨x, rfl⟩
theorem Lo.fin {d : DS} (h : Lo d.l (nms d.l) G K L E) : G = opG d ∧ K = (opZ d).k ∧ L = opL d ∧ E = cutI (opZ d) := by
  have hG : opG d = G := by
    refine best_is ?_ (fun h0 => ?_) fun j h1 h2 => ?_
    · rcases h.c with ⟨h, _⟩ | ⟨h, _⟩ <;> omega
    · rcases h.c with ⟨h, _⟩ | ⟨_, h, _⟩
      · exact absurd h h0
      · exact h
    · cases hw : whole d.l j with
      | false => rfl
      | true =>
        obtain ⟨x, hx⟩ := whole_found hw
        have hm := find_mem hx
        have := h.most (segN j 1) (by rw [← hm.2]; exact List.mem_map.2 ⟨x, hm.1, rfl⟩) j (segOf_segN (by omega) (by omega)) hw
        omega
  rcases h.c with ⟨h1, h2, h3, h4⟩ | ⟨h1, h2, h3, h4, h5⟩
  · have hz : opZ d = Gs.zero := by unfold opZ; rw [hG, if_pos h1]
    refine ⟨hG.symm, by rw [hz]; exact h2, by unfold opL; rw [hz]; exact h3, by rw [hz]; exact h4⟩
  · have hz : opZ d = gen d.l G := by unfold opZ; rw [hG, if_neg (by omega)]
    exact ⟨hG.symm, by rw [hz]; exact h3, by unfold opL; rw [hz]; exact h4, by rw [hz]; exact h5⟩
theorem remL_append : ∀ (a b : List ByteArray) (d : DS), remL (a ++ b) d = if (remL a d).1 = 0 then remL b (remL a d).2 else remL a d
  | [], b, d => by
    show remL b d = if (0 : Int) = 0 then remL b d else _
    rw [if_pos rfl]
  | s :: a, b, d => by
    rw [List.cons_append, remL_cons, remL_cons]
    by_cases h : remE d s = 0
    · rw [if_pos h, if_pos h]; exact remL_append a b _
    · rw [if_neg h, if_neg h, if_neg h]
/-- Is a segment taken away. -/
def oldB (G K : Nat) (s : ByteArray) : Bool := decide ((segOf s).1 ≠ 0) && !(decide ((segOf s).1 = G) && decide ((segOf s).2 ≤ K))
theorem olds_is (l : List Fl) (G K : Nat) : olds l G K = (nms l).filter (oldB G K) := rfl
/-- The first j names are through. -/
def Rj (l : List Fl) (G K j : Nat) (d1 dj : DS) : Prop := remL (((nms l).take j).filter (oldB G K)) d1 = (0, dj)
section
variable {j : Nat} {d1 dj : DS}
theorem Rj.start (l : List Fl) (G K : Nat) (d1 : DS) : Rj l G K 0 d1 d1 := rfl
theorem take_one {l : List Fl} (hj : (nms l)[j]? = some s) : (nms l).take (j + 1) = (nms l).take j ++ [s] := by rw [List.take_add_one, hj]; rfl
theorem Rj.skip (h : Rj l G K j d1 dj) (hj : (nms l)[j]? = some s) (ho : oldB G K s = false) : Rj l G K (j + 1) d1 dj := by
  unfold Rj
  rw [take_one hj, List.filter_append, List.filter_cons_of_neg (by rw [ho]; decide), List.filter_nil, List.append_nil]
  exact h
theorem Rj.more (h : Rj l G K j d1 dj) (hj : (nms l)[j]? = some s) (ho : oldB G K s = true) (he : remE dj s = 0) : Rj l G K (j + 1) d1 (remS dj s) := by
  unfold Rj at *
  rw [take_one hj, List.filter_append, List.filter_cons_of_pos ho, List.filter_nil, remL_append, h, if_pos rfl, remL_cons, he, if_pos rfl]
  rfl
theorem Rj.stop (h : Rj l G K j d1 dj) (hj : (nms l)[j]? = some s) (ho : oldB G K s = true) (he : remE dj s ≠ 0) : remL (olds l G K) d1 = (remE dj s, remS dj s) := by
  have hlt : j < (nms l).length := by
    rcases Nat.lt_or_ge j (nms l).length with h1 | h1
    · exact h1
    · rw [List.getElem?_eq_none h1] at hj; cases hj
  have e : nms l = (nms l).take j ++ s :: (nms l).drop (j + 1) := by
    rw [List.getElem?_eq_getElem hlt] at hj
    injection hj with hj
    have h2 : (nms l).drop j = s :: (nms l).drop (j + 1) := by rw [← hj]; exact List.drop_eq_getElem_cons hlt
    rw [← h2, List.take_append_drop]
  unfold Rj at h
  rw [olds_is]
  conv => lhs; rw [e]
  rw [List.filter_append, List.filter_cons_of_pos ho, remL_append, h, if_pos rfl, remL_cons, if_neg he]
theorem Rj.fin (h : Rj l G K (nms l).length d1 dj) : remL (olds l G K) d1 = (0, dj) := by
  unfold Rj at h
  rw [List.take_length] at h
  exact h
end
end
/-- A Wal of the document in memory. -/
def rwRow (r : Nat) (x : WS) : Array Value := #[.pointer (some ⟨r, 0, none⟩), .int .i64 x.G, .int .i64 x.K, .bool x.bad]
theorem not_row {w : World} {R i : Nat} {t : TypeId} {p : Option Addr} {a b : Int} {c : Bool} {s : ByteArray} (h : Row w R t #[.pointer p, .int .i64 a, .int .i64 b, .bool c]) (hc : w.cell? ⟨R, i, none⟩ = some (.string s)) : False := by
  rw [h.cell i] at hc
  match i, hc with
  | 0, hc => simp at hc
  | 1, hc => simp at hc
  | 2, hc => simp at hc
  | 3, hc => simp at hc
  | i + 4, hc => simp at hc
theorem Strs.kx {X : Nat → Prop} {w w' : World} {A : Option Addr} {xs : List ByteArray} (h : Strs w A xs) (hk : Kx X w w') (hx : 0 < xs.length → ∀ a, A = some a → X a.block) : Strs w' A xs := fun hn => by
  obtain ⟨b, off, e, hb, hc⟩ := h hn
  exact ⟨b, off, e, Nat.lt_of_lt_of_le hb hk.size, fun k x hk2 => (World.cell?_of_block (a := ⟨b, off + k, none⟩) (hk.same (show X b from hx hn ⟨b, off, none⟩ e) hb)).trans (hc k x hk2)⟩
theorem PartsN.kx {X : Nat → Prop} {base : Nat} {w w' : World} {A : Option Addr} {L : List (List Int)} (h : PartsN base w A L) (hk : Kx X w w') (hx : ∀ k, base ≤ k → k < w.heap.size → X k) : PartsN base w' A L := fun j p hj => by
  obtain ⟨b, off, e, h1, h2, A', c', hc, hl, hf⟩ := h j p hj
  exact ⟨b, off, e, h1, Nat.lt_of_lt_of_le h2 hk.size, A', c', (World.cell?_of_block (a := ⟨b, off + j, none⟩) (hk.same (hx b h1 h2) h2)).trans hc,
    ⟨hl.lies.kx hk (fun _ a ha => hx _ (hf a ha).1 (hf a ha).2), hl.le, hl.nil⟩, fun a ha => ⟨(hf a ha).1, Nat.lt_of_lt_of_le (hf a ha).2 hk.size⟩⟩
section
variable {S : Nat → Prop} {w : World} {g : Nat} {R : List (Fl × Ps)} {A : Option Addr} {c : Nat} {d : DS}
set_option maxRecDepth 100000 in
set_option maxHeartbeats 1000000 in
theorem rnamesb_any (h : Rp S w g R A c d) (hln : d.l.length ≤ 1000000) :
    Calls Tryz.prog 48 #[.pointer (some ⟨g, 0, none⟩)] w fun e w' => ∃ A' c', e = .returned (.slice A' d.l.length c') ∧ Strs w' A' (nms d.l) ∧ Below w.heap.size w w' ∧ ∀ a, A' = some a → w.heap.size ≤ a.block := by
  obtain ⟨i0, hi, hz0, hz1, hz2⟩ := info_parts Tryz.infoText
  have C0 := hide h.c0
  have HG := hide h.row.lt
  have HAT := hide (show ∀ k f, d.l[k]? = some f → ∃ b off, A = some ⟨b, off, none⟩ ∧ b < w.heap.size ∧ w.cell? ⟨b, off + k * 3, none⟩ = some (.string f.nm) from fun k f hk => by
    obtain ⟨b, off, s, rfl, hs, hkl, n0, _⟩ := h.at_ hk
    exact ⟨b, off, rfl, h.lt _ (h.sA _ rfl), n0⟩)
  clear h
  go_enter Tryz.func48, Tryz.ntmps48
  go_wp2
  go_loopw [3, 4] (fun v i wr => ∃ k : Nat, k ≤ d.l.length ∧ i = .int .i64 k ∧ Hid (Nm w wr d.l k v)) (fun _ i _ => d.l.length - (intOf i).toNat)
  case atStart => exact ⟨0, by omega, rfl, Below.refl _ _, ⟨rfl, .inl ⟨rfl, rfl⟩⟩⟩
  case round =>
    obtain ⟨k, hk, rfl, J⟩ := hrel
    have c0 : wr.cell? ⟨g, 0, none⟩ = some (.slice A d.l.length c) := (J.out.low.cell (p := ⟨g, 0, none⟩) HG.out).trans C0.out
    obtain ⟨A1, c1, rfl, _⟩ := own_shape J.out.own
    by_cases hlt : k < d.l.length
    · obtain ⟨b, off, rfl, hb, n0'⟩ := HAT.out k d.l[k] (List.getElem?_eq_getElem hlt)
      have n0 := (J.out.low.cell (p := ⟨b, off + k * 3, none⟩) hb).trans n0'
      have HS := hide (nms_succ (List.getElem?_eq_getElem hlt))
      generalize d.l[k] = f at *
      clear n0'
      have own0 := J.out.own
      have hsz := J.out.low.size
      go_wp2_with (at_builtin; refine wpList_append_own _ rfl _ _ 57 rfl w.heap.size 9 i0 (.string ⟨#[]⟩) 1 16 Tryz.underlying57 hi hz0 hz1 hz2 rfl (by decide) _ _ _ rfl (own0.alloc _) ⟨wr.heap.size, 0, none⟩ 1 1 [.string f.nm] rfl rfl (text_new _ _ _) (by simp [Value.oneCell']) (by unfold maxLen; omega) (by omega) (Nat.le_trans hsz (alloc_le _ _)) ?_; intro v' w1 hown' hgrow _)
      have KN := hide (show Nm w w1 d.l (k + 1) v' from ⟨(J.out.low.alloc hsz _).grown hgrow (Nat.le_trans hsz (alloc_le _ _)) (fun q hq => (own0.lt q hq).1), by rw [HS.out]; exact hown'⟩)
      clear hown' hgrow own0 J
      go_wp2
      go_roundw
      case rel => exact ⟨k + 1, by omega, by go_num, KN⟩
      case measure => simp [intOf]; omega
    · obtain rfl : k = d.l.length := by omega
      have HF := hide (show Strs wr A1 (nms d.l) ∧ Below w.heap.size w wr ∧ ∀ a, A1 = some a → w.heap.size ≤ a.block from ⟨Strs.of_own (by have := J.out.own; rw [List.take_of_length_le (by rw [length_nms]; omega)] at this; exact this), J.out.low, own_ge J.out.own⟩)
      clear J
      go_wp2
      go_ret
      exact ⟨A1, c1, rfl, HF.out⟩
end
/-- The document's disk, behind changes, since a world w3 in which it owned T. -/
def Rs (T : Nat → Prop) (w3 : World) (r : Nat) (w : World) (d : DS) : Prop := ∃ T', Rk T' w r d ∧ Own T w3 T' w
section
variable {T : Nat → Prop} {w3 w w' : World} {r : Nat} {d d' : DS} {nm : ByteArray}
theorem Rs.start (h : Rk T w r d) : Rs T w r w d := ⟨T, h, Own.refl _ _⟩
theorem Rs.below (h : Rs T w3 r w d) (hb : Below w.heap.size w w') : Rs T w3 r w' d := by
  obtain ⟨T', h1, h2⟩ := h
  exact ⟨T', h1.below hb, h2.trans ⟨Turn.of_below hb, fun k hk => .inl hk⟩⟩
theorem Rs.ok (h : Rs T w3 r w d) : DOk d := by obtain ⟨_, h, _⟩ := h; exact h.ok
theorem Rs.kx (h : Rs T w3 r w d) : Kx (fun k => ¬ T k) w3 w := by
  obtain ⟨_, _, h⟩ := h
  exact h.turn.mono fun k hk hn => hn hk
theorem Rs.chg {x : Int} {e : Ending} (h : Rs T w3 r w d) (hc : ∀ T', Rk T' w r d → Own T w3 T' w → Chr T' w r x d' e w') : e = .returned (.int .i64 x) ∧ Rs T w3 r w' d' := by
  obtain ⟨T', h1, h2⟩ := h
  obtain ⟨he, T2, h3, h4⟩ := hc T' h1 h2
  exact ⟨he, T2, h3, h2.trans h4⟩
theorem Rs.call {x : Int} {f : FuncId} {args : Array Value} (h : Rs T w3 r w d) (hc : ∀ T', Rk T' w r d → Own T w3 T' w → Calls Tryz.prog f args w (Chr T' w r x d')) : Calls Tryz.prog f args w fun e w' => e = .returned (.int .i64 x) ∧ Rs T w3 r w' d' := by
  obtain ⟨T', h1, h2⟩ := h
  exact (hc T' h1 h2).mono fun e w' ⟨he, T2, h3, h4⟩ => ⟨he, T2, h3, h2.trans h4⟩
theorem Rs.rem (h : Rs T w3 r w d) (hln : d.l.length ≤ 1000000) : Calls Tryz.prog 52 #[.pointer (some ⟨r, 0, none⟩), .string nm] w fun e w' => e = .returned (.int .i64 (remE d nm)) ∧ Rs T w3 r w' (remS d nm) :=
  h.call fun T' h1 _ => by obtain ⟨ho, R, A, c, hR⟩ := h1; exact rrem_any hR ho hln
theorem Rs.cut (h : Rs T w3 r w d) (hln : d.l.length ≤ 1000000) (m : Int) : Calls Tryz.prog 51 #[.pointer (some ⟨r, 0, none⟩), .string nm, .int .i64 m] w fun e w' => e = .returned (.int .i64 (cutE d nm m)) ∧ Rs T w3 r w' (cutS d nm m) :=
  h.call fun T' h1 _ => by obtain ⟨ho, R, A, c, hR⟩ := h1; exact rcut_any hR ho hln m
theorem Rs.syn (h : Rs T w3 r w d) (hln : d.l.length ≤ 1000000) : Calls Tryz.prog 53 #[.pointer (some ⟨r, 0, none⟩), .string nm] w fun e w' => e = .returned (.int .i64 (synE d nm)) ∧ Rs T w3 r w' (synS d nm) :=
  h.call fun T' h1 _ => by obtain ⟨ho, R, A, c, hR⟩ := h1; exact rsync_any hR ho hln
theorem Rs.app {A : Option Addr} {n c : Nat} {zs : List Int} (h : Rs T w3 r w d) (hln : d.l.length ≤ 1000000) (hnb : n ≤ 1000000) (hs : nm.size ≤ 140737488351232) (hm : zs.length = n) (hcB : A = none → c = 0) (hB : Lies w A zs) (hout : 0 < zs.length → ∀ a, A = some a → w3.heap.size ≤ a.block ∧ ∀ T', Rk T' w r d → Own T w3 T' w → ¬ T' a.block) (hz : Octets zs) :
    Calls Tryz.prog 31 #[.pointer (some ⟨r, 0, none⟩), .string nm, .slice A n c] w fun e w' => e = .returned (.int .i64 (appE d nm zs)) ∧ Rs T w3 r w' (appS d nm zs) :=
  h.call fun T' h1 h2 => by
    have h0 := h1
    obtain ⟨ho, R, A', c', hR⟩ := h1
    exact rapp_any hR ho hln hnb hs hm hcB hB (fun hn a ha => (hout hn a ha).2 T' h0 h2) hz
end
theorem rd_k1 (l : List Fl) (g : Nat) : ∀ f k (s : Gs), 1 ≤ k → 1 ≤ s.k → 1 ≤ (rd l g f k s).k
  | 0, _, _, _, h => h
  | f + 1, k, s, hk, h => by
    unfold rd
    cases find (segN g k) l with
    | none => exact h
    | some x =>
      dsimp only
      split
      · exact hk
      · exact rd_k1 l g f (k + 1) _ (by omega) hk
theorem opZ_k1 {d : DS} (h : opG d ≠ 0) : 1 ≤ (opZ d).k := by
  have hw : whole d.l (opG d) = true := best_whole d.l 99 h
  obtain ⟨x, hx⟩ := whole_found hw
  rw [opZ_of rfl h]
  unfold gen
  obtain ⟨f, hf⟩ : ∃ f, d.l.length + 2 = f + 1 := ⟨_, rfl⟩
  rw [hf]
  unfold rd
  rw [hx]
  dsimp only
  split
  · exact Nat.le_refl _
  · exact rd_k1 _ _ _ _ _ (by omega) (Nat.le_refl _)
theorem op_e1 {d : DS} (h : op1E d ≠ 0) : opE d = op1E d ∧ opS d = op1S d := by unfold opE opS; rw [if_pos h, if_pos h]; exact ⟨rfl, rfl⟩
theorem op_e2 {d d' : DS} {x : Int} (h : op1E d = 0) (h2 : op2 d = (x, d')) (hx : x ≠ 0) : opE d = x ∧ opS d = d' := by
  unfold opE opS
  rw [h2]
  simp [h, hx]
theorem op_e3 {d d' : DS} (h : op1E d = 0) (h2 : op2 d = (0, d')) (hG : opG d = 0) : opE d = 0 ∧ opS d = d' := by
  unfold opE opS
  rw [h2]
  simp [h, hG]
theorem op_e4 {d d' : DS} (h : op1E d = 0) (h2 : op2 d = (0, d')) (hG : opG d ≠ 0) : opE d = synE d' (segN (opG d) (opZ d).k) ∧ opS d = synS d' (segN (opG d) (opZ d).k) := by
  unfold opE opS
  rw [h2]
  simp [h, hG]
theorem PartsN.nil (base : Nat) (w : World) (A : Option Addr) : PartsN base w A [] := fun j p hj => by simp at hj
end Go.Proofs.YtkmcnhjfnjikaaaGreatDoor
