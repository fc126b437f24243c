/- What a crash and an Open make of a disk, whatever the changes that are left. No condition: nothing here speaks of a program. -/
import Derived.Test.YtkmcnhjfnjikaaaGreatDoorKep
namespace Go.Proofs.YtkmcnhjfnjikaaaGreatDoor
theorem spent_eta (d : DS) (h : 0 < d.left) : d.spent = { d with left := d.left - 1 } := by unfold DS.spent; rw [if_neg (by omega), if_pos h]
theorem remS_find (d : DS) (s a : ByteArray) : (Up d.l → Up (remS d s).l) ∧ (find a (remS d s).l = find a d.l ∨ (a = s ∧ find a (remS d s).l = none)) := by
  unfold remS
  split
  · exact ⟨id, .inl rfl⟩
  · split
    · exact ⟨id, .inl rfl⟩
    · split
      · rw [spent_l]; exact ⟨id, .inl rfl⟩
      · refine ⟨fun h => up_delF h, ?_⟩
        have h1 : find a (delF s d.l) = if a = s then none else find a d.l := find_delF s a d.l
        by_cases e : a = s
        · exact .inr ⟨e, by rw [if_pos e] at h1; exact h1⟩
        · exact .inl (by rw [if_neg e] at h1; exact h1)
theorem remL_find (a : ByteArray) : ∀ (ns : List ByteArray) (d : DS), (Up d.l → Up (remL ns d).2.l) ∧ (find a (remL ns d).2.l = find a d.l ∨ (a ∈ ns ∧ find a (remL ns d).2.l = none))
  | [], d => ⟨id, .inl rfl⟩
  | s :: r, d => by
    have h1 := remS_find d s a
    rw [remL_cons]
    split
    · have h2 := remL_find a r (remS d s)
      refine ⟨fun h => h2.1 (h1.1 h), ?_⟩
      rcases h2.2 with e | ⟨m, e⟩
      · rcases h1.2 with e1 | ⟨e0, e1⟩
        · exact .inl (e.trans e1)
        · exact .inr ⟨by rw [e0]; exact List.mem_cons_self, e.trans e1⟩
      · exact .inr ⟨List.mem_cons_of_mem _ m, e⟩
    · refine ⟨h1.1, ?_⟩
      rcases h1.2 with e1 | ⟨e0, e1⟩
      · exact .inl e1
      · exact .inr ⟨by rw [e0]; exact List.mem_cons_self, e1⟩
theorem cutS_find {d : DS} (hu : Up d.l) (s : ByteArray) (n : Nat) : Up (cutS d s n).l ∧ ∀ a, find a (cutS d s n).l = find a d.l ∨ (a = s ∧ ∃ x, find a d.l = some x ∧ find a (cutS d s n).l = some ⟨s, x.dt.take n, min x.kp n⟩) := by
  unfold cutS
  split
  · exact ⟨hu, fun a => .inl rfl⟩
  · cases hf : find s d.l with
    | none => exact ⟨hu, fun a => .inl rfl⟩
    | some x =>
      dsimp only
      split
      · exact ⟨hu, fun a => .inl rfl⟩
      · split
        · rw [spent_l]; exact ⟨hu, fun a => .inl rfl⟩
        · refine ⟨up_putF hu, fun a => ?_⟩
          have h1 := find_putF ⟨s, x.dt.take (n : Int).toNat, min x.kp (n : Int).toNat⟩ a d.l hu
          rw [Int.toNat_natCast] at h1
          by_cases e : a = s
          · rw [if_pos e] at h1
            exact .inr ⟨e, x, by rw [e]; exact hf, by rw [Int.toNat_natCast]; exact h1⟩
          · rw [if_neg e] at h1
            exact .inl (by rw [Int.toNat_natCast]; exact h1)
theorem synS_find {d : DS} (hu : Up d.l) (s : ByteArray) : Up (synS d s).l ∧ ∀ a, find a (synS d s).l = find a d.l ∨ (a = s ∧ ∃ x, find a d.l = some x ∧ find a (synS d s).l = some ⟨s, x.dt, x.dt.length⟩) := by
  unfold synS
  split
  · exact ⟨hu, fun a => .inl rfl⟩
  · cases hf : find s d.l with
    | none => exact ⟨hu, fun a => .inl rfl⟩
    | some x =>
      dsimp only
      split
      · rw [spent_l]; exact ⟨hu, fun a => .inl rfl⟩
      · refine ⟨up_putF hu, fun a => ?_⟩
        have h1 := find_putF ⟨s, x.dt, x.dt.length⟩ a d.l hu
        by_cases e : a = s
        · rw [if_pos e] at h1
          exact .inr ⟨e, x, by rw [e]; exact hf, h1⟩
        · rw [if_neg e] at h1
          exact .inl h1
/-- All of each file's bytes are kept. -/
def Kept (l : List Fl) : Prop := ∀ a f, find a l = some f → f.kp = f.dt.length
theorem kept_whole {l : List Fl} (h : Kept l) {a : ByteArray} {x : Fl} (hx : find a l = some x) : x = ⟨a, x.dt, x.dt.length⟩ := by
  have h1 := h a x hx
  have h2 := (find_mem hx).2
  cases x
  simp at h1 h2 ⊢
  exact ⟨h2, h1⟩
/-- What one Open makes of the files: some taken away, one maybe cut. -/
structure Tn (l l' : List Fl) (s : ByteArray) (u : Nat) (c : Prop) (ns : List ByteArray) : Prop where
  up : Up l'
  kept : Kept l'
  f : ∀ a, find a l' = find a l ∨ (a ∈ ns ∧ find a l' = none) ∨ (a = s ∧ c ∧ ∃ x, find a l = some x ∧ find a l' = some ⟨s, x.dt.take u, (x.dt.take u).length⟩)
theorem syn_turn {d : DS} (hu : Up d.l) (hk : Kept d.l) (s : ByteArray) : Up (synS d s).l ∧ ∀ a, find a (synS d s).l = find a d.l := by
  obtain ⟨h1, h2⟩ := synS_find hu s
  refine ⟨h1, fun a => ?_⟩
  rcases h2 a with e | ⟨e, x, hx, hy⟩
  · exact e
  · rw [hx, hy, ← e, ← kept_whole hk hx]
theorem op1_turn {d : DS} (hu : Up d.l) (hk : Kept d.l) : Tn d.l (op1S d).l (segN (opG d) (opZ d).k) (opZ d).u ((opZ d).u < (opZ d).n) [] := by
  unfold op1S
  split
  · rename_i hc
    obtain ⟨h1, h2⟩ := cutS_find hu (segN (opG d) (opZ d).k) (opZ d).u
    have h3 : ∀ a, find a (cutS d (segN (opG d) (opZ d).k) (opZ d).u).l = find a d.l ∨ (a = segN (opG d) (opZ d).k ∧ ∃ x, find a d.l = some x ∧ find a (cutS d (segN (opG d) (opZ d).k) (opZ d).u).l = some ⟨segN (opG d) (opZ d).k, x.dt.take (opZ d).u, (x.dt.take (opZ d).u).length⟩) := fun a => by
      rcases h2 a with e | ⟨e, x, hx, hy⟩
      · exact .inl e
      · refine .inr ⟨e, x, hx, ?_⟩
        rw [hy, hk a x hx, List.length_take, Nat.min_comm]
    refine ⟨h1, fun a f hf => ?_, fun a => ?_⟩
    · rcases h3 a with e | ⟨e, x, hx, hy⟩
      · rw [e] at hf; exact hk a f hf
      · rw [hy] at hf; injection hf with hf; rw [← hf]
    · rcases h3 a with e | ⟨e, x, hx, hy⟩
      · exact .inl e
      · exact .inr (.inr ⟨e, hc, x, hx, hy⟩)
  · exact ⟨hu, hk, fun a => .inl rfl⟩
theorem Tn.rem {l : List Fl} {d : DS} {s : ByteArray} {u : Nat} {c : Prop} (h : Tn l d.l s u c []) (ns : List ByteArray) : Tn l (remL ns d).2.l s u c ns := by
  have h1 := fun a => remL_find a ns d
  refine ⟨(h1 s).1 h.up, fun a f hf => ?_, fun a => ?_⟩
  · rcases (h1 a).2 with e | ⟨_, e⟩
    · rw [e] at hf; exact h.kept a f hf
    · rw [e] at hf; cases hf
  · rcases (h1 a).2 with e | ⟨m, e⟩
    · rw [e]
      rcases h.f a with z | ⟨z, _⟩ | z
      · exact .inl z
      · cases z
      · exact .inr (.inr z)
    · exact .inr (.inl ⟨m, e⟩)
theorem Tn.syn {l : List Fl} {d : DS} {s t : ByteArray} {u : Nat} {c : Prop} {ns : List ByteArray} (h : Tn l d.l s u c ns) : Tn l (synS d t).l s u c ns := by
  obtain ⟨h1, h2⟩ := syn_turn h.up h.kept t
  exact ⟨h1, fun a f hf => by rw [h2] at hf; exact h.kept a f hf, fun a => by rw [h2]; exact h.f a⟩
theorem Tn.more {l l' : List Fl} {s : ByteArray} {u : Nat} {c : Prop} (h : Tn l l' s u c []) (ns : List ByteArray) : Tn l l' s u c ns := ⟨h.up, h.kept, fun a => by
  rcases h.f a with z | ⟨z, _⟩ | z
  · exact .inl z
  · cases z
  · exact .inr (.inr z)⟩
theorem op_turn {d : DS} (hu : Up d.l) (hk : Kept d.l) : Tn d.l (opS d).l (segN (opG d) (opZ d).k) (opZ d).u ((opZ d).u < (opZ d).n) (olds d.l (opG d) (opZ d).k) := by
  have h1 := op1_turn hu hk
  have h2 : Tn d.l (op2 d).2.l (segN (opG d) (opZ d).k) (opZ d).u ((opZ d).u < (opZ d).n) (olds d.l (opG d) (opZ d).k) := h1.rem _
  unfold opS
  split
  · exact h1.more _
  · split
    · exact h2
    · split
      · exact h2
      · exact h2.syn
theorem mem_olds {l : List Fl} (hu : Up l) {G K : Nat} {a : ByteArray} (h : a ∈ olds l G K) : find a l ≠ none ∧ ¬ ((segOf a).1 = G ∧ (segOf a).2 ≤ K) := by
  unfold olds at h
  obtain ⟨h1, h2⟩ := List.mem_filter.1 h
  obtain ⟨f, hf, e⟩ := List.mem_map.1 h1
  have e : f.nm = a := e
  refine ⟨by rw [← e, find_of_mem hu hf]; simp, fun h3 => ?_⟩
  rw [decide_eq_true h3.1, decide_eq_true h3.2] at h2
  simp at h2
theorem nodup_olds {l : List Fl} (hu : Up l) (G K : Nat) : (olds l G K).Nodup := by
  unfold olds
  apply List.Pairwise.filter
  unfold nms
  apply List.pairwise_map.2
  exact List.Pairwise.imp (fun {x y} h e => by rw [e, lt_self] at h; cases h) hu
theorem op1_free {d : DS} (hu : Up d.l) (hl : d.left = -1) (ho : d.off = false) {x : Fl} (hx : find (segN (opG d) (opZ d).k) d.l = some x) (hn : (opZ d).u ≤ x.dt.length) :
    op1E d = 0 ∧ (op1S d).left = -1 ∧ (op1S d).off = false ∧ Up (op1S d).l ∧ ∀ a, (find a (op1S d).l).isSome = (find a d.l).isSome := by
  unfold op1E op1S
  by_cases hc : (opZ d).u < (opZ d).n
  · rw [if_pos hc, if_pos hc]
    have hs : d.spent = d := spent_free' hl
    have hneg : ¬ (((opZ d).u : Int) < 0 ∨ (x.dt.length : Int) < ((opZ d).u : Int)) := by omega
    unfold cutE cutS
    rw [ho, hx, hs]
    simp only [Bool.false_eq_true, if_false]
    rw [if_neg hneg, if_neg hneg, hl]
    refine ⟨by decide, ?_⟩
    rw [if_neg (by decide)]
    refine ⟨rfl, ho, up_putF hu, fun a => ?_⟩
    show (find a (putF _ d.l)).isSome = _
    rw [find_putF _ _ _ hu]
    by_cases e : a = segN (opG d) (opZ d).k
    · rw [if_pos e, e, hx]; rfl
    · rw [if_neg e]
  · rw [if_neg hc, if_neg hc]
    exact ⟨rfl, hl, ho, hu, fun _ => rfl⟩
/-- Open, the changes not counted, has no error. -/
theorem op_free {d : DS} (hu : Up d.l) (hl : d.left = -1) (ho : d.off = false) (hG : 1 ≤ opG d ∧ opG d < 100) (hk : 1 ≤ (opZ d).k ∧ (opZ d).k < 100) {x : Fl} (hx : find (segN (opG d) (opZ d).k) d.l = some x) (hn : (opZ d).u ≤ x.dt.length) : opE d = 0 := by
  obtain ⟨h1, h2, h3, h4, h5⟩ := op1_free hu hl ho hx hn
  have h6 := remL_all (olds d.l (opG d) (opZ d).k) (op1S d) h2 h3 (nodup_olds hu _ _) fun s hs => by
    rw [h5]
    have := (mem_olds hu hs).1
    cases hf : find s d.l with
    | none => exact absurd hf this
    | some _ => rfl
  have h7 : op2 d = _ := h6
  have hs : segN (opG d) (opZ d).k ∉ olds d.l (opG d) (opZ d).k := fun h => (mem_olds hu h).2 (by rw [segOf_segN hG hk]; exact ⟨rfl, Nat.le_refl _⟩)
  have hf : ∃ y, find (segN (opG d) (opZ d).k) (op1S d).l = some y := by
    have := h5 (segN (opG d) (opZ d).k)
    rw [hx] at this
    cases hy : find (segN (opG d) (opZ d).k) (op1S d).l with
    | none => rw [hy] at this; cases this
    | some y => exact ⟨y, rfl⟩
  obtain ⟨y, hy⟩ := hf
  have hym := find_mem hy
  have hy2 : find (segN (opG d) (opZ d).k) (op2 d).2.l = some y := by
    rw [h7]
    have hm : y ∈ (op1S d).l.filter fun f => (olds d.l (opG d) (opZ d).k).all fun s => decide (f.nm ≠ s) := List.mem_filter.2 ⟨hym.1, List.all_eq_true.2 fun s hs2 => by
      simp only [ne_eq, decide_eq_true_eq]
      intro e
      rw [← e, hym.2] at hs2
      exact hs hs2⟩
    have := find_of_mem (List.Pairwise.filter _ h4) hm
    rw [hym.2] at this
    exact this
  unfold opE
  rw [h1, if_neg (by decide), if_neg (by rw [h7]; simp), if_neg (by omega)]
  unfold synE
  rw [hy2, h7]
  dsimp only
  rw [h3, h2]
  rfl
theorem find_tears_none (ps : List Int) (nm : ByteArray) : ∀ (i : Nat) (l : List Fl), find nm l = none → find nm (tears ps i l) = none
  | i, [], _ => rfl
  | i, x :: l, h => by
    unfold find at h
    split at h
    · cases h
    · rename_i e
      unfold tears find
      rw [if_neg (show ¬ (tear x (pickAt ps i)).nm = nm from e)]
      exact find_tears_none ps nm (i + 1) l h
theorem up_tears (ps : List Int) (i : Nat) {l : List Fl} (h : Up l) : Up (tears ps i l) := by
  have h1 : (l.map (·.nm)).Pairwise fun x y => ltB x y = true := List.pairwise_map.2 h
  rw [← tears_nms ps i l] at h1
  exact List.pairwise_map.1 h1
/-- A crash tears one file at most, where all others are kept. -/
theorem tears_one (ps : List Int) {l : List Fl} {nm : ByteArray} {z t : List Int} (hk : ∀ a f, a ≠ nm → find a l = some f → f.kp = f.dt.length) (h : find nm l = some ⟨nm, z ++ t, z.length⟩) :
    (∀ a, a ≠ nm → find a (tears ps 0 l) = find a l) ∧ ∃ i, i ≤ t.length ∧ find nm (tears ps 0 l) = some ⟨nm, z ++ t.take i, (z ++ t.take i).length⟩ := by
  refine ⟨fun a ha => ?_, ?_⟩
  · cases hf : find a l with
    | none => exact find_tears_none ps a 0 l hf
    | some f =>
      obtain ⟨k, e⟩ := find_tears ps a 0 l f hf
      rw [e, tear_kept (hk a f ha hf)]
  · obtain ⟨k, e0⟩ := find_tears ps nm 0 l _ h
    have hp := pick_ge ps k
    have e : (((z ++ t).length : Nat) : Int) - (z.length : Nat) + 1 = (t.length : Int) + 1 := by rw [List.length_append]; omega
    have h1 := Int.emod_nonneg (pickAt ps k) (show (t.length : Int) + 1 ≠ 0 by omega)
    have h2 := Int.emod_lt_of_pos (pickAt ps k) (show 0 < (t.length : Int) + 1 by omega)
    refine ⟨(pickAt ps k % ((t.length : Int) + 1)).toNat, by omega, ?_⟩
    rw [e0]
    unfold tear
    simp only [e]
    rw [List.take_append, List.take_of_length_le (by omega : z.length ≤ z.length + _), show z.length + (pickAt ps k % ((t.length : Int) + 1)).toNat - z.length = (pickAt ps k % ((t.length : Int) + 1)).toNat by omega, List.length_append, List.length_take, Nat.min_eq_left (by omega)]
theorem cra_kept (ps : List Int) {d : DS} (hu : Up d.l) (hk : Kept d.l) : (craS d ps).l = d.l := tears_kept ps d.l 0 fun f hf => hk f.nm f (find_of_mem hu hf)
end Go.Proofs.YtkmcnhjfnjikaaaGreatDoor
