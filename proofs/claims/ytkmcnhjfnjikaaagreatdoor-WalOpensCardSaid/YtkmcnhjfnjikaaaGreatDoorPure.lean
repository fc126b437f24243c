/- A disk in plain words: files by rising names, and what each change makes of them. No condition: nothing here speaks of a program. -/
import Derived.Test.YtkmcnhjfnjikaaaGreatDoorKbas
namespace Go.Proofs.YtkmcnhjfnjikaaaGreatDoor
open Go.RowKit
/-- A file: its name, its bytes, how many of them are kept. -/
structure Fl where
  nm : ByteArray
  dt : List Int
  kp : Nat
/-- A disk: its quota, its files by rising names, how many changes are left, whether there is no power. -/
structure DS where
  q : Int
  l : List Fl
  left : Int
  off : Bool
/-- May a file have that name. -/
def nameB (s : ByteArray) : Bool := decide (1 ≤ s.size) && (decide (s.size ≤ 24) && s.data.toList.all fun c => 33 ≤ c && c ≤ 126)
/-- The names rise. -/
def Up (l : List Fl) : Prop := l.Pairwise fun x y => ltB x.nm y.nm = true
def find (nm : ByteArray) : List Fl → Option Fl
  | [] => none
  | x :: l => if x.nm = nm then some x else find nm l
/-- A file put in, for the one of its name. -/
def putF (f : Fl) : List Fl → List Fl
  | [] => [f]
  | x :: l => if x.nm = f.nm then f :: l else if ltB x.nm f.nm = true then x :: putF f l else f :: x :: l
def delF (nm : ByteArray) (l : List Fl) : List Fl := l.filter fun x => decide (x.nm ≠ nm)
def total (l : List Fl) : Nat := (l.map fun x => x.dt.length).sum
theorem find_mem {nm : ByteArray} {f : Fl} : ∀ {l : List Fl}, find nm l = some f → f ∈ l ∧ f.nm = nm
  | [], h => by cases h
  | x :: l, h => by
    unfold find at h
    split at h
    · rename_i e; cases h; exact ⟨List.mem_cons_self .., e⟩
    · have := find_mem h; exact ⟨List.mem_cons_of_mem _ this.1, this.2⟩
theorem find_none {nm : ByteArray} : ∀ {l : List Fl}, find nm l = none ↔ ∀ x, x ∈ l → x.nm ≠ nm
  | [] => by simp [find]
  | x :: l => by
    unfold find
    split
    · rename_i e; simp [e]
    · rename_i e; rw [find_none]; simp [e]
theorem find_of_mem {f : Fl} : ∀ {l : List Fl}, Up l → f ∈ l → find f.nm l = some f
  | x :: l, hu, h => by
    unfold find
    rcases List.mem_cons.1 h with rfl | h
    · rw [if_pos rfl]
    · have hx := List.rel_of_pairwise_cons hu h
      rw [if_neg (fun e => by rw [e, lt_self] at hx; cases hx)]
      exact find_of_mem (List.Pairwise.of_cons hu) h
theorem mem_putF {f y : Fl} : ∀ {l : List Fl}, Up l → (y ∈ putF f l ↔ y = f ∨ (y ∈ l ∧ y.nm ≠ f.nm))
  | [], _ => by simp [putF]
  | x :: l, hu => by
    have ih := mem_putF (f := f) (y := y) (List.Pairwise.of_cons hu)
    have hall : ∀ z, z ∈ l → ltB x.nm z.nm = true := fun z hz => List.rel_of_pairwise_cons hu hz
    unfold putF
    split
    · rename_i e
      have : ∀ z, z ∈ l → z.nm ≠ f.nm := fun z hz k => by have := hall z hz; rw [e, k, lt_self] at this; cases this
      simp only [List.mem_cons]
      constructor
      · rintro (h | h)
        · exact .inl h
        · exact .inr ⟨.inr h, this y h⟩
      · rintro (h | ⟨rfl | h, hn⟩)
        · exact .inl h
        · exact absurd e hn
        · exact .inr h
    · rename_i e
      split
      · rw [List.mem_cons, ih, List.mem_cons]
        constructor
        · rintro (rfl | h | ⟨h, hn⟩)
          · exact .inr ⟨.inl rfl, e⟩
          · exact .inl h
          · exact .inr ⟨.inr h, hn⟩
        · rintro (h | ⟨rfl | h, hn⟩)
          · exact .inr (.inl h)
          · exact .inl rfl
          · exact .inr (.inr ⟨h, hn⟩)
      · rename_i hlt
        have hfx : ltB f.nm x.nm = true := by
          cases h : ltB f.nm x.nm
          · exact absurd (lt_or (by simpa using hlt) h) e
          · rfl
        have : ∀ z, z ∈ l → z.nm ≠ f.nm := fun z hz k => by have := lt_trans hfx (hall z hz); rw [k, lt_self] at this; cases this
        simp only [List.mem_cons]
        constructor
        · rintro (h | rfl | h)
          · exact .inl h
          · exact .inr ⟨.inl rfl, e⟩
          · exact .inr ⟨.inr h, this y h⟩
        · rintro (h | ⟨rfl | h, hn⟩)
          · exact .inl h
          · exact .inr (.inl rfl)
          · exact .inr (.inr h)
theorem up_putF {f : Fl} : ∀ {l : List Fl}, Up l → Up (putF f l)
  | [], _ => by simp [putF, Up]
  | x :: l, hu => by
    have ih := up_putF (f := f) (List.Pairwise.of_cons hu)
    have hall : ∀ z, z ∈ l → ltB x.nm z.nm = true := fun z hz => List.rel_of_pairwise_cons hu hz
    unfold putF
    split
    · rename_i e
      exact List.pairwise_cons.2 ⟨fun z hz => by rw [← e]; exact hall z hz, List.Pairwise.of_cons hu⟩
    · rename_i e
      split
      · rename_i hlt
        refine List.pairwise_cons.2 ⟨fun z hz => ?_, ih⟩
        rcases (mem_putF (List.Pairwise.of_cons hu)).1 hz with rfl | ⟨h, _⟩
        · exact hlt
        · exact hall z h
      · rename_i hlt
        have hfx : ltB f.nm x.nm = true := by
          cases h : ltB f.nm x.nm
          · exact absurd (lt_or (by simpa using hlt) h) e
          · rfl
        refine List.pairwise_cons.2 ⟨fun z hz => ?_, hu⟩
        rcases List.mem_cons.1 hz with rfl | h
        · exact hfx
        · exact lt_trans hfx (hall z h)
theorem mem_delF {nm : ByteArray} {y : Fl} {l : List Fl} : y ∈ delF nm l ↔ y ∈ l ∧ y.nm ≠ nm := by simp [delF]
theorem up_delF {nm : ByteArray} {l : List Fl} (h : Up l) : Up (delF nm l) := List.Pairwise.filter _ h
theorem delF_same {nm : ByteArray} {x : Fl} (l : List Fl) (e : x.nm = nm) : delF nm (x :: l) = delF nm l := by simp [delF, e]
theorem delF_other {nm : ByteArray} {x : Fl} (l : List Fl) (e : ¬ x.nm = nm) : delF nm (x :: l) = x :: delF nm l := by simp [delF, e]
theorem find_putF (f : Fl) (nm : ByteArray) : ∀ l : List Fl, Up l → find nm (putF f l) = if nm = f.nm then some f else find nm l
  | [], _ => by
    unfold putF find find
    by_cases e : nm = f.nm
    · rw [if_pos e.symm, if_pos e]
    · rw [if_neg (fun k => e k.symm), if_neg e]
  | x :: l, hu => by
    have ih := find_putF f nm l (List.Pairwise.of_cons hu)
    unfold putF
    split
    · rename_i e
      unfold find
      by_cases h : nm = f.nm
      · rw [if_pos h.symm, if_pos h]
      · rw [if_neg (fun k => h k.symm), if_neg h, if_neg (fun k => h (by rw [← k, e]))]
    · rename_i e
      split
      · unfold find
        rw [ih]
        by_cases h : x.nm = nm
        · rw [if_pos h, if_pos h, if_neg (fun k => e (by rw [h, k]))]
        · rw [if_neg h, if_neg h]
      · by_cases h : nm = f.nm
        · rw [if_pos h]; unfold find; rw [if_pos h.symm]
        · rw [if_neg h]; conv => lhs; unfold find
          rw [if_neg (fun k => h k.symm)]
theorem find_delF (nm a : ByteArray) : ∀ l : List Fl, find a (delF nm l) = if a = nm then none else find a l
  | [] => by simp [delF, find]
  | x :: l => by
    have ih := find_delF nm a l
    by_cases e : x.nm = nm
    · rw [delF_same l e, ih]
      by_cases h : a = nm
      · rw [if_pos h, if_pos h]
      · rw [if_neg h, if_neg h]; conv => rhs; unfold find
        rw [if_neg (fun k => h (by rw [← k, e]))]
    · rw [delF_other l e]
      unfold find
      rw [ih]
      by_cases h : x.nm = a
      · rw [if_pos h, if_pos h, if_neg (fun k => e (by rw [h, k]))]
      · rw [if_neg h, if_neg h]
def lenO : Option Fl → Nat
  | none => 0
  | some f => f.dt.length
theorem total_cons (x : Fl) (l : List Fl) : total (x :: l) = x.dt.length + total l := by simp [total]
theorem total_putF (f : Fl) : ∀ l : List Fl, Up l → total (putF f l) + lenO (find f.nm l) = total l + f.dt.length
  | [], _ => by simp [putF, total, find, lenO]
  | x :: l, hu => by
    have ih := total_putF f l (List.Pairwise.of_cons hu)
    have hall : ∀ z, z ∈ l → ltB x.nm z.nm = true := fun z hz => List.rel_of_pairwise_cons hu hz
    unfold putF find
    split
    · rw [total_cons, total_cons]; simp [lenO]; omega
    · rename_i e
      split
      · rw [total_cons, total_cons]; omega
      · rename_i hlt
        have hfx : ltB f.nm x.nm = true := by
          cases h : ltB f.nm x.nm
          · exact absurd (lt_or (by simpa using hlt) h) e
          · rfl
        have hn : find f.nm l = none := find_none.2 fun z hz k => by have := lt_trans hfx (hall z hz); rw [k, lt_self] at this; cases this
        rw [hn]
        rw [total_cons, total_cons]; simp [lenO]; omega
theorem total_delF (nm : ByteArray) : ∀ l : List Fl, Up l → total (delF nm l) + lenO (find nm l) = total l
  | [], _ => by simp [delF, total, find, lenO]
  | x :: l, hu => by
    have ih := total_delF nm l (List.Pairwise.of_cons hu)
    have hall : ∀ z, z ∈ l → ltB x.nm z.nm = true := fun z hz => List.rel_of_pairwise_cons hu hz
    unfold find
    by_cases e : x.nm = nm
    · have hn : find nm l = none := find_none.2 fun z hz k => by have := hall z hz; rw [e, k, lt_self] at this; cases this
      rw [hn] at ih
      rw [delF_same l e, if_pos e, total_cons]; simp [lenO] at ih ⊢; omega
    · rw [delF_other l e, if_neg e, total_cons, total_cons]; omega
theorem length_putF (f : Fl) : ∀ l : List Fl, Up l → (putF f l).length = if (find f.nm l).isSome then l.length else l.length + 1
  | [], _ => by simp [putF, find]
  | x :: l, hu => by
    have ih := length_putF f l (List.Pairwise.of_cons hu)
    have hall : ∀ z, z ∈ l → ltB x.nm z.nm = true := fun z hz => List.rel_of_pairwise_cons hu hz
    unfold putF find
    split
    · simp
    · rename_i e
      split
      · simp only [List.length_cons, ih]; split <;> rfl
      · rename_i hlt
        have hfx : ltB f.nm x.nm = true := by
          cases h : ltB f.nm x.nm
          · exact absurd (lt_or (by simpa using hlt) h) e
          · rfl
        have hn : find f.nm l = none := find_none.2 fun z hz k => by have := lt_trans hfx (hall z hz); rw [k, lt_self] at this; cases this
        rw [hn]; simp
theorem length_delF (nm : ByteArray) (l : List Fl) (hu : Up l) : (delF nm l).length = if (find nm l).isSome then l.length - 1 else l.length := by
  induction l with
  | nil => simp [delF, find]
  | cons x l ih =>
    have ih := ih (List.Pairwise.of_cons hu)
    have hall : ∀ z, z ∈ l → ltB x.nm z.nm = true := fun z hz => List.rel_of_pairwise_cons hu hz
    unfold find
    by_cases e : x.nm = nm
    · have hn : find nm l = none := find_none.2 fun z hz k => by have := hall z hz; rw [e, k, lt_self] at this; cases this
      rw [hn] at ih
      rw [delF_same l e, if_pos e]
      simp at ih ⊢; omega
    · rw [delF_other l e, if_neg e, List.length_cons, ih]
      cases h : find nm l with
      | none => rfl
      | some f =>
        have := List.length_pos_of_mem (find_mem h).1
        simp; omega
theorem put_del (f : Fl) : ∀ l : List Fl, Up l → putF f (delF f.nm l) = putF f l
  | [], _ => rfl
  | x :: l, hu => by
    have ih := put_del f l (List.Pairwise.of_cons hu)
    have hall : ∀ z, z ∈ l → ltB x.nm z.nm = true := fun z hz => List.rel_of_pairwise_cons hu hz
    have far : ∀ l' : List Fl, (∀ z, z ∈ l' → ltB f.nm z.nm = true) → delF f.nm l' = l' ∧ putF f l' = f :: l' := fun l' hl' => by
      constructor
      · unfold delF
        refine List.filter_eq_self.2 fun z hz => ?_
        have := hl' z hz
        simp; intro k; rw [k, lt_self] at this; cases this
      · cases l' with
        | nil => rfl
        | cons y r =>
          have := hl' y (List.mem_cons_self ..)
          unfold putF
          rw [if_neg (fun k => by rw [k, lt_self] at this; cases this), if_neg]
          intro k
          have := lt_trans this k
          rw [lt_self] at this; cases this
    by_cases e : x.nm = f.nm
    · have hf := far l (fun z hz => by rw [← e]; exact hall z hz)
      rw [delF_same l e, hf.1, hf.2]
      conv => rhs; unfold putF
      rw [if_pos e]
    · rw [delF_other l e]
      unfold putF
      rw [if_neg e, if_neg e]
      by_cases hlt : ltB x.nm f.nm = true
      · rw [if_pos hlt, if_pos hlt, ih]
      · rw [if_neg hlt, if_neg hlt]
        have hfx : ltB f.nm x.nm = true := by
          cases h : ltB f.nm x.nm
          · exact absurd (lt_or (by simpa using hlt) h) e
          · rfl
        rw [(far l (fun z hz => lt_trans hfx (hall z hz))).1]
theorem putF_same {f x : Fl} (l : List Fl) (h : x.nm = f.nm) : putF f (x :: l) = f :: l := by simp [putF, h]
theorem putF_lt {f x : Fl} (l : List Fl) (h : ¬ x.nm = f.nm) (h2 : ltB x.nm f.nm = true) : putF f (x :: l) = x :: putF f l := by simp [putF, h, h2]
theorem putF_gt {f x : Fl} (l : List Fl) (h : ¬ x.nm = f.nm) (h2 : ¬ ltB x.nm f.nm = true) : putF f (x :: l) = f :: x :: l := by simp [putF, h, h2]
theorem put_put (f f' : Fl) (e : f'.nm = f.nm) : ∀ l : List Fl, putF f' (putF f l) = putF f' l
  | [] => by
    rw [show putF f [] = [f] from rfl, putF_same [] e.symm]; rfl
  | x :: l => by
    have ih := put_put f f' e l
    by_cases h : x.nm = f.nm
    · rw [putF_same l h, putF_same l e.symm, putF_same l (h.trans e.symm)]
    · by_cases hlt : ltB x.nm f.nm = true
      · rw [putF_lt l h hlt, putF_lt _ (by rw [e]; exact h) (by rw [e]; exact hlt), putF_lt _ (by rw [e]; exact h) (by rw [e]; exact hlt), ih]
      · rw [putF_gt l h hlt, putF_same _ e.symm, putF_gt l (by rw [e]; exact h) (by rw [e]; exact hlt)]
/-! ### the changes -/
/-- Is a change done; what is left behind it. -/
def DS.spends (d : DS) : Bool := d.left != 0
def DS.spent (d : DS) : DS := if d.left = 0 then { d with off := true } else if 0 < d.left then { d with left := d.left - 1 } else d
def datO : Option Fl → List Int
  | none => []
  | some f => f.dt
def kepO : Option Fl → Nat
  | none => 0
  | some f => f.kp
def appE (d : DS) (nm : ByteArray) (p : List Int) : Int :=
  if d.off then 10 else if nameB nm = false then 11 else if d.q < total d.l + p.length then 7 else if d.left = 0 then 10 else 0
def appS (d : DS) (nm : ByteArray) (p : List Int) : DS :=
  if d.off then d else if nameB nm = false then d else if d.q < total d.l + p.length then d else if d.left = 0 then d.spent
  else { d.spent with l := putF ⟨nm, datO (find nm d.l) ++ p, kepO (find nm d.l)⟩ d.l }
def synE (d : DS) (nm : ByteArray) : Int := if d.off then 10 else if (find nm d.l).isNone then 8 else if d.left = 0 then 10 else 0
def synS (d : DS) (nm : ByteArray) : DS :=
  if d.off then d else match find nm d.l with
    | none => d
    | some f => if d.left = 0 then d.spent else { d.spent with l := putF ⟨nm, f.dt, f.dt.length⟩ d.l }
def cutE (d : DS) (nm : ByteArray) (n : Int) : Int :=
  if d.off then 10 else match find nm d.l with
    | none => 8
    | some f => if n < 0 ∨ (f.dt.length : Int) < n then 1 else if d.left = 0 then 10 else 0
def cutS (d : DS) (nm : ByteArray) (n : Int) : DS :=
  if d.off then d else match find nm d.l with
    | none => d
    | some f => if n < 0 ∨ (f.dt.length : Int) < n then d else if d.left = 0 then d.spent else { d.spent with l := putF ⟨nm, f.dt.take n.toNat, min f.kp n.toNat⟩ d.l }
def renE (d : DS) (nm tto : ByteArray) : Int := if d.off then 10 else if nameB tto = false then 11 else if (find nm d.l).isNone then 8 else if d.left = 0 then 10 else 0
def renS (d : DS) (nm tto : ByteArray) : DS :=
  if d.off then d else if nameB tto = false then d else match find nm d.l with
    | none => d
    | some f => if d.left = 0 then d.spent else { d.spent with l := putF ⟨tto, f.dt, f.kp⟩ (delF nm d.l) }
def remE (d : DS) (nm : ByteArray) : Int := if d.off then 10 else if (find nm d.l).isNone then 8 else if d.left = 0 then 10 else 0
def remS (d : DS) (nm : ByteArray) : DS :=
  if d.off then d else match find nm d.l with
    | none => d
    | some _ => if d.left = 0 then d.spent else { d.spent with l := delF nm d.l }
def armS (d : DS) (n : Int) : DS := { d with left := max n (-1) }
/-- The pick of the file that stands at place k. -/
def pickAt (ps : List Int) (k : Nat) : Int := max (ps.getD k 0) 0
def tear (f : Fl) (p : Int) : Fl :=
  let n := f.kp + (p % ((f.dt.length : Int) - f.kp + 1)).toNat
  ⟨f.nm, f.dt.take n, n⟩
def tears (ps : List Int) : Nat → List Fl → List Fl
  | _, [] => []
  | k, x :: l => tear x (pickAt ps k) :: tears ps (k + 1) l
def craS (d : DS) (ps : List Int) : DS := { d with l := tears ps 0 d.l, left := -1, off := false }
def newS (q : Int) : DS := ⟨q, [], -1, false⟩
end Go.Proofs.YtkmcnhjfnjikaaaGreatDoor
