/- The document's own disk in memory: a slice of files by their names, each with bytes of its own. No condition. -/
import Derived.Test.YtkmcnhjfnjikaaaGreatDoorKtea
import Derived.Test.YtkmcnhjfnjikaaaGreatDoorKtwi
import Derived.Test.YtkmcnhjfnjikaaaGreatDoorKbas
import Derived.LoopTactic
import Derived.Laws.OwnMore
import Derived.Test.YtkmcnhjfnjikaaaGreatDoorPure
namespace Go.Proofs.YtkmcnhjfnjikaaaGreatDoor
open Go.RowKit Go.Maps
/-- Where a file's bytes lie, and their room. -/
abbrev Ps := Option Nat × Nat
def Ps.A (s : Ps) : Option Addr := s.1.map fun r => ⟨r, 0, none⟩
def cell3 (x : Fl × Ps) : List Value := [.string x.1.nm, .slice x.2.A x.1.dt.length x.2.2, .int .i64 x.1.kp]
def cells3 (R : List (Fl × Ps)) : List Value := R.flatMap cell3
theorem length_cells3 : ∀ R : List (Fl × Ps), (cells3 R).length = R.length * 3
  | [] => rfl
  | x :: r => by
    have := length_cells3 r
    unfold cells3 at this ⊢
    rw [List.flatMap_cons, List.length_append, this, List.length_cons]
    show 3 + r.length * 3 = _
    omega
theorem cells3_append (l m : List (Fl × Ps)) : cells3 (l ++ m) = cells3 l ++ cells3 m := by unfold cells3; exact List.flatMap_append
theorem cells3_of : ∀ {R : List (Fl × Ps)} {k : Nat} {x : Fl × Ps}, R[k]? = some x → (cells3 R)[k * 3]? = some (.string x.1.nm) ∧ (cells3 R)[k * 3 + 1]? = some (.slice x.2.A x.1.dt.length x.2.2) ∧ (cells3 R)[k * 3 + 2]? = some (.int .i64 x.1.kp)
  | [], k, x, h => by simp at h
  | y :: r, 0, x, h => by
    simp at h; subst h
    exact ⟨rfl, rfl, rfl⟩
  | y :: r, k + 1, x, h => by
    have := cells3_of (R := r) (k := k) (x := x) (by simpa using h)
    have e : cells3 (y :: r) = .string y.1.nm :: .slice y.2.A y.1.dt.length y.2.2 :: .int .i64 y.1.kp :: cells3 r := rfl
    rw [e, show (k + 1) * 3 = k * 3 + 1 + 1 + 1 by omega]
    simp only [List.getElem?_cons_succ]
    exact this
theorem cells3_get {R : List (Fl × Ps)} {j : Nat} {u : Value} (h : (cells3 R)[j]? = some u) : ∃ k x, R[k]? = some x ∧ ((j = k * 3 ∧ u = .string x.1.nm) ∨ (j = k * 3 + 1 ∧ u = .slice x.2.A x.1.dt.length x.2.2) ∨ (j = k * 3 + 2 ∧ u = .int .i64 x.1.kp)) := by
  have hj : j < R.length * 3 := by
    rcases Nat.lt_or_ge j (cells3 R).length with h1 | h1
    · rwa [length_cells3] at h1
    · rw [List.getElem?_eq_none h1] at h; cases h
  have hx : R[j / 3]? = some R[j / 3] := List.getElem?_eq_getElem (by omega)
  obtain ⟨h0, h1, h2⟩ := cells3_of hx
  refine ⟨j / 3, _, hx, ?_⟩
  have h3 : j % 3 = 0 ∨ j % 3 = 1 ∨ j % 3 = 2 := by omega
  rcases h3 with e | e | e
  · have e2 : j / 3 * 3 = j := by omega
    rw [e2, h] at h0
    exact .inl ⟨e2.symm, Option.some.inj h0⟩
  · have e2 : j / 3 * 3 + 1 = j := by omega
    rw [e2, h] at h1
    exact .inr (.inl ⟨e2.symm, Option.some.inj h1⟩)
  · have e2 : j / 3 * 3 + 2 = j := by omega
    rw [e2, h] at h2
    exact .inr (.inr ⟨e2.symm, Option.some.inj h2⟩)
theorem cells3_one {R : List (Fl × Ps)} : ∀ u ∈ cells3 R, u.oneCell' = true := fun u hu => by
  obtain ⟨j, hj⟩ := List.mem_iff_getElem?.1 hu
  obtain ⟨k, x, _, h | h | h⟩ := cells3_get hj <;> (rw [h.2]; rfl)
/-- From A on there lie the files R. -/
def Lies3 (w : World) (A : Option Addr) (R : List (Fl × Ps)) : Prop := 0 < R.length → ∃ b off, A = some ⟨b, off, none⟩ ∧ b < w.heap.size ∧ ∀ k x, R[k]? = some x →
  w.cell? ⟨b, off + k * 3, none⟩ = some (.string x.1.nm) ∧ w.cell? ⟨b, off + k * 3 + 1, none⟩ = some (.slice x.2.A x.1.dt.length x.2.2) ∧ w.cell? ⟨b, off + k * 3 + 2, none⟩ = some (.int .i64 x.1.kp)
theorem lies3_own {w : World} {base : Nat} {e : TypeId} {A : Option Addr} {n c : Nat} {R : List (Fl × Ps)} (h : w.ownsRow base e 3 (.slice A n c) n (cells3 R)) : Lies3 w A R ∧ R.length = n := by
  have hn : R.length = n := by have := h.1; rw [length_cells3] at this; omega
  refine ⟨fun hp => ?_, hn⟩
  rcases h.2 with ⟨e, h0⟩ | ⟨g, cap, cur, e, hg, hh, q1, q2, q3, q4⟩
  · omega
  · injection e with e1 e2 e3
    subst e1
    refine ⟨g, 0, rfl, (Array.getElem?_eq_some_iff.1 hh).1, fun k x hk => ?_⟩
    obtain ⟨h0, h1, h2⟩ := cells3_of hk
    have hl : k < R.length := by
      rcases Nat.lt_or_ge k R.length with h1 | h1
      · exact h1
      · rw [List.getElem?_eq_none h1] at hk; cases hk
    rw [← q4, List.getElem?_take_of_lt (by omega), Array.getElem?_toList] at h0 h1 h2
    refine ⟨?_, ?_, ?_⟩
    · rw [cell_of_row w g _ cur _ (0, 0) hh, Nat.zero_add]; exact h0
    · rw [cell_of_row w g _ cur _ (0, 0) hh, Nat.zero_add]; exact h1
    · rw [cell_of_row w g _ cur _ (0, 0) hh, Nat.zero_add]; exact h2
/-- The parts of the document's disk at block g. -/
structure Rp (S : Nat → Prop) (w : World) (g : Nat) (R : List (Fl × Ps)) (A : Option Addr) (c : Nat) (d : DS) : Prop where
  lt : ∀ k, S k → k < w.heap.size
  row : Row w g 94 #[.slice A d.l.length c, .int .i64 d.q, .int .i64 d.left, .bool d.off]
  ls : R.map Prod.fst = d.l
  own : w.ownsRow 0 104 3 (.slice A d.l.length c) d.l.length (cells3 R)
  dat : ∀ x, x ∈ R → w.ownsRow 0 5 1 (.slice x.2.A x.1.dt.length x.2.2) x.1.dt.length (cellsOf x.1.dt)
  sg : S g
  sA : ∀ a, A = some a → S a.block
  sd : ∀ x, x ∈ R → ∀ r, x.2.1 = some r → S r
def Rk (S : Nat → Prop) (w : World) (g : Nat) (d : DS) : Prop := DOk d ∧ ∃ R A c, Rp S w g R A c d
theorem own_same {w w' : World} {e : TypeId} {sz : Nat} {A : Option Addr} {n c : Nat} {vs : List Value} (h : w.ownsRow 0 e sz (.slice A n c) n vs) (hs : ∀ a, A = some a → w'.heap[a.block]? = w.heap[a.block]?) : w'.ownsRow 0 e sz (.slice A n c) n vs := by
  refine ⟨h.1, ?_⟩
  rcases h.2 with hn | ⟨g, cap, cur, hv, hb, hg, rest⟩
  · exact .inl hn
  · refine .inr ⟨g, cap, cur, hv, hb, ?_, rest⟩
    injection hv with hA
    rw [← hg]; exact hs ⟨g, 0, none⟩ hA
section
variable {S : Nat → Prop} {w w' : World} {g : Nat} {R : List (Fl × Ps)} {A : Option Addr} {c : Nat} {d : DS}
theorem Rp.at_ (h : Rp S w g R A c d) {k : Nat} {f : Fl} (hk : d.l[k]? = some f) : ∃ b off s, A = some ⟨b, off, none⟩ ∧ R[k]? = some (f, s) ∧ k < d.l.length ∧
    w.cell? ⟨b, off + k * 3, none⟩ = some (.string f.nm) ∧ w.cell? ⟨b, off + k * 3 + 1, none⟩ = some (.slice s.A f.dt.length s.2) ∧ w.cell? ⟨b, off + k * 3 + 2, none⟩ = some (.int .i64 f.kp) := by
  rw [← h.ls, List.getElem?_map] at hk
  obtain ⟨x, hx, rfl⟩ := Option.map_eq_some_iff.1 hk
  have hl : k < R.length := by
    rcases Nat.lt_or_ge k R.length with h1 | h1
    · exact h1
    · rw [List.getElem?_eq_none h1] at hx; cases hx
  obtain ⟨hL, hn⟩ := lies3_own h.own
  obtain ⟨b, off, e, hb, hc⟩ := hL (by omega)
  obtain ⟨h0, h1, h2⟩ := hc k x hx
  exact ⟨b, off, x.2, e, hx, by omega, h0, h1, h2⟩
/-- What stays where none of its blocks turn. -/
theorem Rp.kept (h : Rp S w g R A c d) (hs : w.heap.size ≤ w'.heap.size) (hk : ∀ k, S k → w'.heap[k]? = w.heap[k]?) : Rp S w' g R A c d :=
  ⟨fun k hk' => Nat.lt_of_lt_of_le (h.lt k hk') hs, (hk g h.sg).trans h.row, h.ls, own_same h.own (fun a ha => hk _ (h.sA a ha)), fun x hx => own_same (h.dat x hx) (fun a ha => by
    unfold Ps.A at ha
    cases hr : x.2.1 with
    | none => rw [hr] at ha; cases ha
    | some r => rw [hr] at ha; injection ha with ha; rw [← ha]; exact hk _ (h.sd x hx r hr)), h.sg, h.sA, h.sd⟩
theorem Rp.below (h : Rp S w g R A c d) (hb : Below w.heap.size w w') : Rp S w' g R A c d := h.kept hb.size fun k hk => hb.block k (h.lt k hk)
theorem Rk.kept (h : Rk S w g d) (hs : w.heap.size ≤ w'.heap.size) (hk : ∀ k, S k → w'.heap[k]? = w.heap[k]?) : Rk S w' g d := by obtain ⟨o, R, A, c, h⟩ := h; exact ⟨o, R, A, c, h.kept hs hk⟩
theorem Rk.below (h : Rk S w g d) (hb : Below w.heap.size w w') : Rk S w' g d := by obtain ⟨o, R, A, c, h⟩ := h; exact ⟨o, R, A, c, h.below hb⟩
theorem Rk.ok (h : Rk S w g d) : DOk d := by exact h.1
theorem Rk.lt (h : Rk S w g d) : ∀ k, S k → k < w.heap.size := by obtain ⟨_, R, A, c, h⟩ := h; exact h.lt
/-- The disk's own cells turn: not its files. -/
theorem Rp.cells (h : Rp S w g R A c d) {e : DS} (hg : w.grownBy w' (some g)) (hr : Row w' g 94 #[.slice A e.l.length c, .int .i64 e.q, .int .i64 e.left, .bool e.off]) (hl : e.l = d.l) : Rp S w' g R A c e := by
  have stay : ∀ {k : Nat} {cs : Array Value} {t : TypeId}, w.heap[k]? = some (.cells cs t (0, 0)) → t ≠ 94 → w'.heap[k]? = w.heap[k]? := fun {k cs t} hk hne => by
    refine hg.block k (Array.getElem?_eq_some_iff.1 hk).1 fun e => ?_
    injection e with e
    exact kind_ne hk h.row hne e
  refine ⟨fun k hk => Nat.lt_of_lt_of_le (h.lt k hk) hg.size, hr, by rw [hl]; exact h.ls, ?_, fun x hx => ?_, h.sg, h.sA, h.sd⟩
  · rw [hl]
    refine own_same h.own fun a ha => ?_
    rcases h.own.2 with ⟨hv, _⟩ | ⟨q, cap, cur, hv, _, hh, _⟩
    · injection hv with hv; rw [hv] at ha; cases ha
    · injection hv with hv; rw [hv] at ha; injection ha with ha; rw [← ha]; exact stay hh (by decide)
  · refine own_same (h.dat x hx) fun a ha => ?_
    rcases (h.dat x hx).2 with ⟨hv, _⟩ | ⟨q, cap, cur, hv, _, hh, _⟩
    · injection hv with hv; rw [hv] at ha; cases ha
    · injection hv with hv; rw [hv] at ha; injection ha with ha; rw [← ha]; exact stay hh (by decide)
end
/-- What a change answers, and the document's disk behind it. -/
def Chr (S : Nat → Prop) (w : World) (g : Nat) (x : Int) (d : DS) (e : Ending) (w' : World) : Prop := e = .returned (.int .i64 x) ∧ ∃ S', Rk S' w' g d ∧ Own S w S' w'
theorem Chr.same {S : Nat → Prop} {w : World} {g : Nat} {d : DS} (h : Rk S w g d) (x : Int) : Chr S w g x d (.returned (.int .i64 x)) w := ⟨rfl, S, h, Own.refl _ _⟩
end Go.Proofs.YtkmcnhjfnjikaaaGreatDoor
/- The law's own test of a name. Condition: the text has room. -/
namespace Go.Proofs.YtkmcnhjfnjikaaaGreatDoor
open Go.RowKit Go.Maps
theorem name_long {s : ByteArray} (h : 24 < s.size) : nameB s = false := by unfold nameB; simp; omega
theorem name_none {s : ByteArray} (h : s.size < 1) : nameB s = false := by unfold nameB; simp; omega
end Go.Proofs.YtkmcnhjfnjikaaaGreatDoor
/- The document's disk: what only looks, and its power. Conditions: the slice has room. -/
namespace Go.Proofs.YtkmcnhjfnjikaaaGreatDoor
open Go.RowKit Go.Maps
set_option maxHeartbeats 1000000 in
theorem rname_any (s : ByteArray) (w : World) (hs : s.size ≤ 140737488351232) : Calls Tryz.prog 65 #[.string s] w fun e w' => e = .returned (.bool (nameB s)) ∧ w = w' := by
  go_enter Tryz.func65, Tryz.ntmps65
  go_wp2
  go_loop [3] (fun i => ∃ k : Nat, k ≤ s.size ∧ i = .int .i64 k ∧ Hid (∀ j, j < k → okAt s j)) (fun i => s.size - (intOf i).toNat)
  case atStart => exact ⟨0, by omega, rfl, fun j hj => absurd hj (by omega)⟩
  case round =>
    obtain ⟨k, hk, rfl, hs⟩ := hrel
    by_cases hlt : k < s.size
    · by_cases hc : okAt s k
      · have hc' := hc hlt
        have HC := hide hc
        have HS := hide (show ∀ j, j < k + 1 → okAt s j from fun j hj => by
          rcases Nat.lt_or_ge j k with h | h
          · exact hs.out j h
          · obtain rfl : j = k := by omega
            exact HC.out)
        obtain ⟨hc1, hc2⟩ := hc'
        clear hc HC hs
        go_wp2
        go_round
        case rel => exact ⟨k + 1, by omega, by go_num, HS⟩
        case measure => simp [intOf]; omega
      · have hn := hide (name_no hlt hc)
        have hc' : (s[k].toNat : Int) < 33 ∨ 126 < (s[k].toNat : Int) := by
          rcases Int.lt_or_le (s[k].toNat : Int) 33 with h | h
          · exact .inl h
          · right
            rcases Int.lt_or_le 126 (s[k].toNat : Int) with h2 | h2
            · exact h2
            · exact absurd (fun _ => ⟨h, h2⟩) hc
        clear hc hs
        rcases hc' with hc' | hc'
        · go_wp2
          go_ret
          exact ⟨ret_bool hn.out.symm, rfl⟩
        · go_wp2
          all_goals
            go_ret
            exact ⟨ret_bool hn.out.symm, rfl⟩
    · have hall := hide (show ∀ j, j < s.size → okAt s j from fun j hj => hs.out j (by omega))
      clear hs
      by_cases h0 : s.size < 1
      · have hn := hide (name_none h0)
        have he1 : s.toList = [] := by rw [ByteArray.toList_eq]; exact List.eq_nil_of_length_eq_zero (by rw [Array.length_toList]; show s.size = 0; omega)
        go_wp2
        go_ret
        exact ⟨ret_bool (by rw [hn.out]), rfl⟩
      · have he0 : s.toList.isEmpty = false := by
          rw [ByteArray.toList_eq]
          have hz : s.data.toList.length = s.size := Array.length_toList
          cases hl : s.data.toList with
          | nil => rw [hl] at hz; exact absurd (show s.size < 1 from by rw [← hz]; exact Nat.one_pos) h0
          | cons => rfl
        by_cases h1 : 24 < s.size
        · have hn := hide (name_long h1)
          go_wp2
          go_ret
          exact ⟨ret_bool (by rw [hn.out]; simp; omega), rfl⟩
        · have hn := hide (name_yes (s := s) (by omega) (by omega) hall.out)
          go_wp2
          go_ret
          exact ⟨ret_bool (by rw [hn.out]; simp; omega), rfl⟩
/-- Where a file is: nowhere, or there. -/
def AtP (nm : ByteArray) (l : List Fl) (v : Int) : Prop := (v = -1 ∧ find nm l = none) ∨ ∃ k f, v = (k : Nat) ∧ l[k]? = some f ∧ f.nm = nm
section
variable {S : Nat → Prop} {w : World} {g : Nat} {R : List (Fl × Ps)} {A : Option Addr} {c : Nat} {d : DS}
set_option maxHeartbeats 1000000 in
theorem at_any (h : Rp S w g R A c d) (nm : ByteArray) (hln : d.l.length ≤ 1000000) :
    Calls Tryz.prog 94 #[.pointer (some ⟨g, 0, none⟩), .string nm] w fun e w' => (∃ v : Int, e = .returned (.int .i64 v) ∧ AtP nm d.l v) ∧ w = w' := by
  have c0 : w.cell? ⟨g, 0, none⟩ = some (.slice A d.l.length c) := h.row.cell 0
  have H := hide h
  clear h
  go_enter Tryz.func94, Tryz.ntmps94
  go_wp2
  go_loop [5] (fun i => ∃ k : Nat, k ≤ d.l.length ∧ i = .int .i64 k ∧ Hid (∀ j f, j < k → d.l[j]? = some f → f.nm ≠ nm)) (fun i => d.l.length - (intOf i).toNat)
  case atStart => exact ⟨0, by omega, rfl, fun j f hj => absurd hj (by omega)⟩
  case round =>
    obtain ⟨k, hk, rfl, hs⟩ := hrel
    by_cases hlt : k < d.l.length
    · obtain ⟨b, off, s, rfl, _, _, n0, _, _⟩ := H.out.at_ (List.getElem?_eq_getElem hlt)
      by_cases he : d.l[k].nm = nm
      · have hE : (d.l[k].nm.toList == nm.toList) = true := by rw [he]; simp
        have hF := hide (show AtP nm d.l (k : Nat) from .inr ⟨k, d.l[k], rfl, List.getElem?_eq_getElem hlt, he⟩)
        clear hs he
        go_wp2
        go_ret
        exact ⟨⟨_, rfl, hF.out⟩, rfl⟩
      · have hE : (d.l[k].nm.toList == nm.toList) = false := by
          cases hx : (d.l[k].nm.toList == nm.toList)
          · rfl
          · exact absurd (text_ext (beq_iff_eq.1 hx)) he
        have HS := hide (show ∀ j f, j < k + 1 → d.l[j]? = some f → f.nm ≠ nm from fun j f hj hf => by
          rcases Nat.lt_or_ge j k with h | h
          · exact hs.out j f h hf
          · obtain rfl : j = k := by omega
            rw [List.getElem?_eq_getElem hlt] at hf
            injection hf with hf
            rw [← hf]; exact he)
        clear hs he
        go_wp2
        go_round
        case rel => exact ⟨k + 1, by omega, by go_num, HS⟩
        case measure => simp [intOf]; omega
    · have hF := hide (show AtP nm d.l (-1) from .inl ⟨rfl, find_none.2 fun x hx => by
        obtain ⟨j, hj⟩ := List.mem_iff_getElem?.1 hx
        refine hs.out j x ?_ hj
        rcases Nat.lt_or_ge j d.l.length with h1 | h1
        · omega
        · rw [List.getElem?_eq_none h1] at hj; cases hj⟩)
      clear hs
      go_wp2
      go_ret
      exact ⟨⟨_, rfl, hF.out⟩, rfl⟩
theorem total_take : ∀ (l : List Fl) {k : Nat} (hk : k < l.length), total (l.take (k + 1)) = total (l.take k) + l[k].dt.length
  | [], k, hk => by simp at hk
  | x :: r, 0, _ => by simp [total]
  | x :: r, k + 1, hk => by
    have := total_take r (k := k) (by simpa using hk)
    rw [List.take_succ_cons, List.take_succ_cons, total_cons, total_cons, this]
    simp; omega
theorem total_take_le (l : List Fl) (k : Nat) : total (l.take k) ≤ total l := by
  have : total l = total (l.take k) + total (l.drop k) := by unfold total; rw [← List.sum_append, ← List.map_append, List.take_append_drop]
  omega
set_option maxHeartbeats 1000000 in
theorem rtotal_any (h : Rp S w g R A c d) (hok : DOk d) (hln : d.l.length ≤ 1000000) :
    Calls Tryz.prog 66 #[.pointer (some ⟨g, 0, none⟩)] w fun e w' => e = .returned (.int .i64 (total d.l)) ∧ w = w' := by
  have c0 : w.cell? ⟨g, 0, none⟩ = some (.slice A d.l.length c) := h.row.cell 0
  have hle : total d.l ≤ 1048576 := by have := hok.tot; have := hok.q; omega
  have H := hide h
  have hT := hide (total_take_le d.l)
  clear h hok
  go_enter Tryz.func66, Tryz.ntmps66
  go_wp2
  go_loop [3, 4] (fun s i => ∃ k : Nat, k ≤ d.l.length ∧ i = .int .i64 k ∧ s = .int .i64 (total (d.l.take k) : Nat)) (fun s i => d.l.length - (intOf i).toNat)
  case atStart => exact ⟨0, by omega, rfl, rfl⟩
  case round =>
    obtain ⟨k, hk, rfl, rfl⟩ := hrel
    by_cases hlt : k < d.l.length
    · obtain ⟨b, off, s, rfl, _, _, _, n1, _⟩ := H.out.at_ (List.getElem?_eq_getElem hlt)
      have ht1 := hT.out k
      have ht2 := hT.out (k + 1)
      have ht := total_take d.l hlt
      go_wp2
      go_round
      case rel => exact ⟨k + 1, by omega, by go_num, by rw [ht]; go_num⟩
      case measure => simp [intOf]; omega
    · have he := hide (show total (d.l.take k) = total d.l from by rw [List.take_of_length_le (by omega)])
      go_wp2
      go_ret
      exact ⟨ret_int (by rw [he.out]), rfl⟩
end
end Go.Proofs.YtkmcnhjfnjikaaaGreatDoor
/- Slices of files that a region that draws its order puts together; what turns in the document's disk. Conditions: they have room. -/
namespace Go.Proofs.YtkmcnhjfnjikaaaGreatDoor
open Go.RowKit Go.Maps
section
variable {w w' W : World} {A : Option Addr} {R : List (Fl × Ps)}
theorem Lies3.cells {b off : Nat} (h : Lies3 w (some ⟨b, off, none⟩) R) : ∀ j u, (cells3 R)[j]? = some u → w.cell? ((⟨b, off, none⟩ : Addr).add j) = some u := fun j u hj => by
  obtain ⟨k, x, hk, hju⟩ := cells3_get hj
  obtain ⟨b', off', e, _, hc⟩ := h (by
    rcases Nat.eq_zero_or_pos R.length with h0 | h0
    · rw [List.eq_nil_of_length_eq_zero h0] at hk; cases hk
    · exact h0)
  obtain ⟨h0, h1, h2⟩ := hc k x hk
  injection e with e
  injection e with e1 e2 _
  subst e1 e2
  rw [Go.WideShapes.add_plain]
  rcases hju with ⟨rfl, rfl⟩ | ⟨rfl, rfl⟩ | ⟨rfl, rfl⟩
  · exact h0
  · exact h1
  · exact h2
theorem Lies3.below (h : Lies3 w A R) (hb : Below w.heap.size w w') : Lies3 w' A R := fun hn => by
  obtain ⟨b, off, e, hlt, hc⟩ := h hn
  have key : ∀ i, w'.cell? ⟨b, i, none⟩ = w.cell? ⟨b, i, none⟩ := fun i => World.cell?_of_block (a := ⟨b, i, none⟩) (hb.block b hlt)
  exact ⟨b, off, e, Nat.lt_of_lt_of_le hlt hb.size, fun k x hk => by simp only [key]; exact hc k x hk⟩
theorem Lies3.take (h : Lies3 w A R) (k : Nat) : Lies3 w A (R.take k) := fun hn => by
  rw [List.length_take] at hn
  obtain ⟨b, off, e, hlt, hc⟩ := h (by omega)
  refine ⟨b, off, e, hlt, fun j x hj => hc j x ?_⟩
  rw [List.getElem?_take] at hj
  split at hj
  · exact hj
  · cases hj
/-- The rest of a slice from the i-th on: its address as the model reckons it. -/
def part3 (A : Option Addr) (c i : Nat) : Option Addr := if c = i then A else Option.map (fun x => x.add (i * 3)) A
theorem Lies3.rest {c : Nat} (h : Lies3 w A R) (hc : R.length ≤ c) (i : Nat) : Lies3 w (part3 A c i) (R.drop i) := fun hn => by
  rw [List.length_drop] at hn
  obtain ⟨b, off, e, hlt, hcell⟩ := h (by omega)
  have hne : ¬ c = i := by omega
  unfold part3
  rw [if_neg hne, e]
  refine ⟨b, off + i * 3, ?_, hlt, fun k x hk => ?_⟩
  · show some ((⟨b, off, none⟩ : Addr).add (i * 3)) = _
    rw [Go.WideShapes.add_plain]
  · rw [List.getElem?_drop] at hk
    have := hcell _ _ hk
    rw [show off + i * 3 + k * 3 = off + (i + k) * 3 by omega]
    exact this
theorem part3_none {c i : Nat} (h : A = none → c = 0) (k : part3 A c i = none) : c - i = 0 := by
  unfold part3 at k
  split at k
  · omega
  · cases A with
    | none => rw [h rfl]; omega
    | some a => cases k
theorem run_append_3 {P : Program} (base : Nat) (t ty e : TypeId) (i : TypeInfo) (z : Value) (ht : P.underlying t = some (.slice e)) (hi : P.info? e = some i) (hz : i.zero = some z) (hsize : i.size = 3) (hby : i.bytes = 48) (hzs : z.cells.size = 3)
    (v : Value) (n : Nat) (xs : List (Fl × Ps)) (hown : w.ownsRow base e 3 v n (cells3 xs)) (hv : v ≠ .slice none 0 0)
    (A : Option Addr) (m c : Nat) (zs : List (Fl × Ps)) (hm : zs.length = m) (hc : A = none → c = 0) (hl : Lies3 w A zs) (hb : n + m ≤ 1000000000) (hbase : base ≤ w.heap.size) :
    ∃ g cap w', (Builtin.append_ #[t, t] ty #[v, .slice A m c]).run P w = .ok (.slice (some ⟨g, 0, none⟩) (n + m) cap) w' ∧ w'.ownsRow base e 3 (.slice (some ⟨g, 0, none⟩) (n + m) cap) (n + m) (cells3 (xs ++ zs)) ∧ w.grownBy w' v.ownBlock ∧ n + m ≤ cap := by
  subst hm
  have hform : ∀ (v' : Value) (w' : World) (k : Nat) (ys : List Value), w'.ownsRow base e 3 v' k ys → v' ≠ .slice none 0 0 → ∃ g cap, v' = .slice (some ⟨g, 0, none⟩) k cap ∧ k ≤ cap := fun v' w' k ys h hne => by
    rcases h.2 with ⟨h1, _⟩ | ⟨g, cap, cur, h1, _, _, h2, _⟩
    · exact absurd h1 hne
    · exact ⟨g, cap, h1, h2⟩
  rcases A with _ | ad
  · have hz0 : zs = [] := by
      rcases zs with _ | ⟨x, r⟩
      · rfl
      · obtain ⟨_, _, e, _⟩ := hl (by simp)
        cases e
    subst hz0
    obtain rfl := hc rfl
    obtain ⟨g, cap, rfl, hcap⟩ := hform _ _ _ _ hown hv
    exact ⟨g, cap, w, run_append_owned_none (P := P) (w := w) base t ty e i 3 ht hi _ n (cells3 xs) hown, by simpa using hown, grown_refl _ _, hcap⟩
  · have hsp : ∀ j u, (cells3 zs)[j]? = some u → w.cell? (ad.add j) = some u := fun j u hj => by
      rcases zs with _ | ⟨x, r⟩
      · cases hj
      · obtain ⟨b, off, e, _⟩ := hl (by simp)
        injection e with e
        subst e
        exact hl.cells j u hj
    obtain ⟨v', w', hr, h1, h2, h3⟩ := run_append_own (P := P) w base t ty e i z 3 48 ht hi hz hsize hby hzs (by omega) v n (cells3 xs) hown ad zs.length c (cells3 zs) (length_cells3 zs) hsp cells3_one (by unfold maxLen; omega) (by omega) hbase
    obtain ⟨g, cap, rfl, hcap⟩ := hform _ _ _ _ h1 (fun h => hv (h3.1 h).1)
    exact ⟨g, cap, w', hr, by rw [cells3_append]; exact h1, h2, hcap⟩
set_option maxRecDepth 100000 in
theorem Tryz.infoFile : (Tryz.prog.info? 104).map (fun i => (i.zero, i.size, i.bytes)) = some (some (.agg #[.string ⟨#[]⟩, .slice none 0 0, .int .i64 0]), 3, 48) := by kernel_rfl
/-- An own slice of the files xs at block g; nothing of W has turned. -/
structure Fw (W w : World) (g n cap : Nat) (xs : List (Fl × Ps)) : Prop where
  low : Below W.heap.size W w
  own : w.ownsRow W.heap.size 104 3 (.slice (some ⟨g, 0, none⟩) n cap) n (cells3 xs)
section
variable {g n cap : Nat} {xs : List (Fl × Ps)}
theorem Fw.start (h : Below W.heap.size W w) : Fw W (w.alloc (.cells #[] 104)) w.heap.size 0 0 [] :=
  ⟨h.alloc h.size _, w.ownsRow_made #[] 0 h.size (by unfold maxLen; omega) rfl⟩
theorem Fw.alloc (h : Fw W w g n cap xs) (o : Obj) : Fw W (w.alloc o) g n cap xs := ⟨h.low.alloc h.low.size _, h.own.alloc _⟩
theorem Fw.lt (h : Fw W w g n cap xs) : W.heap.size ≤ g ∧ g < w.heap.size := h.own.lt g rfl
theorem step_append_fw {ops : Array Oper} {o : Oper} {a : Act} {K : Act → World → Prop} {Q : Exit → Act → World → Prop} {E : Prop} (hgd : o.guard = none) (s x : Operand)
    (ho : o.op = .call { callee := .builtin .append, args := #[s, x], argTypes := #[92, 92] })
    (hs : a.eval s = .slice (some ⟨g, 0, none⟩) n cap) (hG : Fw W w g n cap xs)
    (A : Option Addr) (m c : Nat) (zs : List (Fl × Ps)) (hx : a.eval x = .slice A m c) (hm : zs.length = m) (hc : A = none → c = 0) (hl : Lies3 w A zs) (N : Nat) (hN : n + m = N) (hb : N ≤ 1000000000)
    (h : ∀ g' cap' w', Fw W w' g' N cap' (xs ++ zs) → w.grownBy w' (some g) → N ≤ cap' → K (a.put o.dst (.slice (some ⟨g', 0, none⟩) N cap')) w') :
    if Region.wanted o (yielded ops a.tmps) = true then Oper.wp Tryz.prog o a w K Q else E := by
  obtain ⟨i0, hi, hz0, hz1, hz2⟩ := info_parts Tryz.infoFile
  subst hN
  have hw : Region.wanted o (yielded ops a.tmps) = true := by simp [Region.wanted, hgd]
  rw [if_pos hw]
  obtain ⟨g', cap', w', hr, h2, h3, h4⟩ := run_append_3 (P := Tryz.prog) (w := w) W.heap.size 92 o.type 104 i0 _ Tryz.underlying92 hi hz0 hz1 hz2 rfl _ n xs hG.own (by simp) A m c zs hm hc hl hb hG.low.size
  unfold Oper.wp execOp
  simp only [ho, resolve, invoke, builtin, Sem.run_bind, Sem.run_pure, Result.andThen_ok, List.map_toArray, List.map_cons, List.map_nil, hs, hx, hr]
  exact h g' cap' w' ⟨hG.low.grown h3 hG.low.size (fun k hk => by cases hk; exact hG.lt.1), h2⟩ h3 h4
end
end
end Go.Proofs.YtkmcnhjfnjikaaaGreatDoor
/- The disk's files as a slice: where one goes, comes, turns. No condition: nothing here speaks of a program. -/
namespace Go.Proofs.YtkmcnhjfnjikaaaGreatDoor
open Go.RowKit
/-- A file that isn't there, put where the first one stands that isn't below it. -/
theorem putF_at {f : Fl} : ∀ {l : List Fl} {k : Nat}, (∀ j x, j < k → l[j]? = some x → ltB x.nm f.nm = true) → (∀ x, l[k]? = some x → ltB x.nm f.nm = false ∧ x.nm ≠ f.nm) → k ≤ l.length → putF f l = l.take k ++ [f] ++ l.drop k
  | [], k, _, _, hk => by
    obtain rfl : k = 0 := by simpa using hk
    rfl
  | x :: r, 0, _, h, _ => by
    obtain ⟨h1, h2⟩ := h x rfl
    rw [putF_gt r h2 (by simp [h1])]; rfl
  | x :: r, k + 1, h, h2, hk => by
    have h0 := h 0 x (by omega) rfl
    have hne : x.nm ≠ f.nm := fun e => by rw [e, lt_self] at h0; cases h0
    rw [putF_lt r hne h0, putF_at (l := r) (k := k) (fun j y hj hy => h (j + 1) y (by omega) (by simpa using hy)) (fun y hy => h2 y (by simpa using hy)) (by simpa using hk)]
    rfl
/-- A file that is there turns. -/
theorem putF_set {f f' : Fl} (hn : f'.nm = f.nm) : ∀ {l : List Fl} {k : Nat}, Up l → l[k]? = some f → putF f' l = l.set k f'
  | [], k, _, h => by simp at h
  | x :: r, 0, _, h => by
    simp at h; subst h
    rw [putF_same r hn.symm]; rfl
  | x :: r, k + 1, hu, h => by
    have hk : r[k]? = some f := by simpa using h
    have h0 : ltB x.nm f.nm = true := List.rel_of_pairwise_cons hu (List.mem_of_getElem? hk)
    have hne : x.nm ≠ f'.nm := fun e => by rw [e, hn, lt_self] at h0; cases h0
    rw [putF_lt r hne (by rw [hn]; exact h0), putF_set hn (List.Pairwise.of_cons hu) hk]; rfl
/-- A file goes. -/
theorem delF_at {f : Fl} : ∀ {l : List Fl} {k : Nat}, Up l → l[k]? = some f → delF f.nm l = l.take k ++ l.drop (k + 1)
  | [], k, _, h => by simp at h
  | x :: r, 0, hu, h => by
    simp at h; subst h
    have hall : ∀ z, z ∈ r → z.nm ≠ x.nm := fun z hz e => by
      have := List.rel_of_pairwise_cons hu hz
      rw [e, lt_self] at this; cases this
    rw [delF_same r rfl]
    unfold delF
    rw [List.filter_eq_self.2 (fun z hz => by simpa using hall z hz)]; rfl
  | x :: r, k + 1, hu, h => by
    have hk : r[k]? = some f := by simpa using h
    have h0 : ltB x.nm f.nm = true := List.rel_of_pairwise_cons hu (List.mem_of_getElem? hk)
    have hne : x.nm ≠ f.nm := fun e => by rw [e, lt_self] at h0; cases h0
    rw [delF_other r hne, delF_at (List.Pairwise.of_cons hu) hk]; rfl
theorem find_at {f : Fl} {l : List Fl} {k : Nat} (hu : Up l) (h : l[k]? = some f) : find f.nm l = some f := find_of_mem hu (List.mem_of_getElem? h)
/-- A file comes, if it isn't there. -/
def plcL (nm : ByteArray) (l : List Fl) : List Fl := if (find nm l).isSome then l else putF ⟨nm, [], 0⟩ l
theorem plc_up {nm : ByteArray} {l : List Fl} (h : Up l) : Up (plcL nm l) := by unfold plcL; split; exact h; exact up_putF h
theorem plc_find {nm : ByteArray} {l : List Fl} (h : Up l) : find nm (plcL nm l) = some ⟨nm, datO (find nm l), kepO (find nm l)⟩ := by
  unfold plcL
  cases hf : find nm l with
  | none => rw [if_neg (by simp), find_putF _ _ _ h, if_pos rfl]; rfl
  | some f =>
    rw [if_pos (show (some f).isSome = true from rfl), hf]
    obtain ⟨_, rfl⟩ := find_mem hf
    rfl
theorem plc_put {f : Fl} {l : List Fl} : putF f (plcL f.nm l) = putF f l := by
  unfold plcL
  split
  · rfl
  · exact put_put ⟨f.nm, [], 0⟩ f rfl l
theorem plc_len (nm : ByteArray) {l : List Fl} (h : Up l) : (plcL nm l).length ≤ l.length + 1 := by
  unfold plcL
  split
  · omega
  · rw [length_putF _ _ h]; split <;> omega
end Go.Proofs.YtkmcnhjfnjikaaaGreatDoor
