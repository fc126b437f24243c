/- Maps keyed by an instance, elements of whatever kind: what they hold, as a list of entries; what each operation comes to; ranging over them in whatever order. No condition: nothing here speaks of one function. -/
import Derived.Test.YtiaegloipnhhdaaGreatQa
import Derived.Maps.RangeWalk
import Derived.Maps.OwnSet
import Derived.Test.YtiaegloipnhhdaaGreatQk
import Derived.Test.YtiaegloipnhhdaaGreatQm
import Derived.Laws.CopyRow
import Derived.Test.YtiaegloipnhhdaaGreatQl
import Derived.Deep.DeepCutAuto
import Derived.BigQuiet
set_option maxRecDepth 100000
namespace Go.Proofs.YtiaegloipnhhdaaGreat
open Go.RowKit Go.Maps
/-- An element reads as itself. -/
def asIs (v : Value) : Option (DataW Value × List MemPlace) := some (.held v, [])
abbrev Ents : Type := List ((Int × Int) × Value)
/-- What is read says just what the list says. -/
structure Tells (D : DataW Value) (l : Ents) : Prop where
  size : size D = l.length
  has : ∀ e, e ∈ l → has D (kl e.1) = true ∧ ∀ z, D.atKey (kl e.1) z = .held e.2
  only : ∀ x, Ok x → Maps.has D (kl x) = true → ∃ v, (x, v) ∈ l
/-- The map in block b holds just these entries, no key twice. -/
structure Mp (w : World) (b : Nat) (l : Ents) : Prop where
  map : ∃ D : DataW Value, w.ownsMap Tryz.prog 30 asIs b (Maps.size D) D ∧ Tells D l
  ok : ∀ e, e ∈ l → Ok e.1
  nd : (l.map Prod.fst).Nodup
def getM (l : Ents) (x : Int × Int) : Option Value := (l.find? fun e => decide (e.1 = x)).map Prod.snd
def putM (l : Ents) (x : Int × Int) (v : Value) : Ents := if x ∈ l.map Prod.fst then l.map (fun e => if e.1 = x then (x, v) else e) else l ++ [(x, v)]
def delM (l : Ents) (x : Int × Int) : Ents := l.filter fun e => decide (e.1 ≠ x)
theorem one_key {l : Ents} (h : (l.map Prod.fst).Nodup) {x : Int × Int} {v u : Value} (h1 : (x, v) ∈ l) (h2 : (x, u) ∈ l) : v = u := by
  induction l with
  | nil => cases h1
  | cons e l ih =>
    rw [List.map_cons, List.nodup_cons] at h
    rcases List.mem_cons.1 h1 with e1 | h1
    · rcases List.mem_cons.1 h2 with e2 | h2
      · have := e1.trans e2.symm
        exact (Prod.mk.injEq ..).mp this |>.2
      · exact absurd (List.mem_map.2 ⟨_, h2, by rw [← e1]⟩) h.1
    · rcases List.mem_cons.1 h2 with e2 | h2
      · exact absurd (List.mem_map.2 ⟨_, h1, by rw [← e2]⟩) h.1
      · exact ih h.2 h1 h2
theorem getM_some {l : Ents} (h : (l.map Prod.fst).Nodup) {x : Int × Int} {v : Value} (h1 : (x, v) ∈ l) : getM l x = some v := by
  unfold getM
  cases hf : l.find? fun e => decide (e.1 = x) with
  | none =>
    have := List.find?_eq_none.1 hf _ h1
    simp at this
  | some e =>
    have he := List.mem_of_find?_eq_some hf
    have hx := List.find?_some hf
    obtain ⟨k, u⟩ := e
    have hx : k = x := by simpa using hx
    subst hx
    rw [one_key h he h1]
    rfl
theorem getM_none {l : Ents} {x : Int × Int} (h : x ∉ l.map Prod.fst) : getM l x = none := by
  unfold getM
  rw [List.find?_eq_none.2 (fun e he => by
    simp only [decide_eq_true_eq]
    exact fun e1 => h (List.mem_map.2 ⟨e, he, e1⟩))]
  rfl
section
variable {w w' : World} {b r : Nat} {l : Ents} {left : Lit → Bool}
theorem Mp.lt (h : Mp w b l) : b < w.heap.size := by
  obtain ⟨D, hD, _⟩ := h.map
  exact hD.lt
theorem Mp.grown {row : Option Nat} (h : Mp w b l) (hg : w.grownBy w' row) (h1 : some b ≠ row) : Mp w' b l := by
  obtain ⟨D, hD, hm⟩ := h.map
  exact ⟨⟨D, hD.kept hg h1, hm⟩, h.ok, h.nd⟩
theorem Mp.below (h : Mp w b l) (hb : Below w.heap.size w w') : Mp w' b l := h.grown (grown_below hb) (by simp)
theorem Mp.alloc (h : Mp w b l) (o : Obj) : Mp (w.alloc o) b l := h.grown (World.grownBy_alloc w o none) (by simp)
theorem Mp.drew (h : Mp w b l) : Mp w.drew b l := ⟨h.map, h.ok, h.nd⟩
theorem Mp.drewN (h : Mp w b l) (n : Nat) : Mp (w.drewN n) b l := ⟨h.map, h.ok, h.nd⟩
theorem Mp.setCell (h : Mp w b l) {a : Addr} (ha : b ≠ a.block) (u : Value) : Mp (w.setCell a u) b l := by
  obtain ⟨D, hD, hm⟩ := h.map
  exact ⟨⟨D, hD.setCell ha u, hm⟩, h.ok, h.nd⟩
theorem tight {n : Nat} {D : DataW Value} (h : w.ownsMap Tryz.prog 30 asIs b n D) : w.ownsMap Tryz.prog 30 asIs b (Maps.size D) D := by
  obtain ⟨es, c, hb, F, hs, rfl⟩ := h
  exact ⟨es, c, hb, F, by simp [Maps.size, length_sorted], rfl⟩
/-- A map that was just made. -/
theorem Mp.made (w : World) : Mp (w.alloc (.map #[] 0)) w.heap.size [] :=
  ⟨⟨.map [], World.ownsMap_made w _ _ _, rfl, (fun e he => by cases he), fun x _ hx => by cases hx⟩, (fun e he => by cases he), List.nodup_nil⟩
theorem Tells.at_ {D : DataW Value} (h : Tells D l) (hn : (l.map Prod.fst).Nodup) {x : Int × Int} (hx : Ok x) (z : Value) : D.atKey (kl x) (.held z) = .held ((getM l x).getD z) ∧ Maps.has D (kl x) = (getM l x).isSome := by
  cases hh : Maps.has D (kl x)
  · have hnm : x ∉ l.map Prod.fst := fun hm => by
      obtain ⟨e, he, rfl⟩ := List.mem_map.1 hm
      rw [(h.has e he).1] at hh
      cases hh
    rw [getM_none hnm]
    exact ⟨atKey_of_not_has hh _, rfl⟩
  · obtain ⟨v, hv⟩ := h.only x hx hh
    rw [getM_some hn hv]
    exact ⟨(h.has _ hv).2 _, rfl⟩
/-- 'v, ok := m[k]'. -/
theorem Mp.look {T e : TypeId} (h : Mp w b l) (ht : Tryz.prog.underlying T = some (.map 30 e)) {z : Value} (hz : (zeroValue e).run Tryz.prog w = .ok z w) (x : Int × Int) (hx : Ok x) :
    (Instr.lookup T (.map (some b)) (.agg #[.int .i64 x.1, .int .i64 x.2]) true).run Tryz.prog w = .ok (.tuple #[(getM l x).getD z, .bool (getM l x).isSome]) w := by
  obtain ⟨D, hD, hT⟩ := h.map
  obtain ⟨v, ps, hr, hv⟩ := hD.look_ok law ht hz (zd := .held z) (zp := []) rfl (key_of x hx)
  have h2 := hT.at_ h.nd hx z
  rw [h2.1] at hv
  have hv : (some (DataW.held v, ([] : List MemPlace))) = some (.held ((getM l x).getD z), ps) := hv
  injection hv with hv
  injection hv with hv _
  injection hv with hv
  subst hv
  rw [← h2.2]
  exact hr
/-- 'v := m[k]'. -/
theorem Mp.look1 {T e : TypeId} (h : Mp w b l) (ht : Tryz.prog.underlying T = some (.map 30 e)) {z : Value} (hz : (zeroValue e).run Tryz.prog w = .ok z w) (x : Int × Int) (hx : Ok x) :
    (Instr.lookup T (.map (some b)) (.agg #[.int .i64 x.1, .int .i64 x.2]) false).run Tryz.prog w = .ok ((getM l x).getD z) w := by
  obtain ⟨D, hD, hT⟩ := h.map
  obtain ⟨v, ps, hr, hv⟩ := hD.lookup law ht hz (zd := .held z) (zp := []) rfl (key_of x hx)
  have h2 := hT.at_ h.nd hx z
  rw [h2.1] at hv
  have hv : (some (DataW.held v, ([] : List MemPlace))) = some (.held ((getM l x).getD z), ps) := hv
  injection hv with hv
  injection hv with hv _
  injection hv with hv
  subst hv
  exact hr
/-- 'len(m)'. -/
theorem Mp.len {T e : TypeId} (h : Mp w b l) (ht : Tryz.prog.underlying T = some (.map 30 e)) (ty : TypeId) : (Builtin.len_ #[T] ty #[.map (some b)]).run Tryz.prog w = .ok (.int .i64 l.length) w := by
  obtain ⟨D, hD, hT⟩ := h.map
  have := hD.len ht ty
  rw [hT.size] at this
  exact this
theorem mem_putM {x : Int × Int} {v : Value} {e : (Int × Int) × Value} : e ∈ putM l x v ↔ e = (x, v) ∨ (e ∈ l ∧ e.1 ≠ x) := by
  unfold putM
  split
  · rename_i h
    rw [List.mem_map]
    constructor
    · rintro ⟨f, hf, rfl⟩
      split
      · exact .inl rfl
      · rename_i h2
        exact .inr ⟨hf, h2⟩
    · rintro (rfl | ⟨h1, h2⟩)
      · obtain ⟨f, hf, h3⟩ := List.mem_map.1 h
        exact ⟨f, hf, by rw [if_pos h3]⟩
      · exact ⟨e, h1, by rw [if_neg h2]⟩
  · rename_i h
    rw [List.mem_append, List.mem_singleton]
    constructor
    · rintro (h1 | rfl)
      · exact .inr ⟨h1, fun e1 => h (List.mem_map.2 ⟨e, h1, e1⟩)⟩
      · exact .inl rfl
    · rintro (rfl | ⟨h1, _⟩)
      · exact .inr rfl
      · exact .inl h1
theorem putM_keys (l : Ents) (x : Int × Int) (v : Value) : (putM l x v).map Prod.fst = if x ∈ l.map Prod.fst then l.map Prod.fst else l.map Prod.fst ++ [x] := by
  unfold putM
  split
  · rw [List.map_map]
    refine List.map_congr_left fun e _ => ?_
    show (if e.1 = x then (x, v) else e).1 = e.1
    split
    · rename_i h; exact h.symm
    · rfl
  · rw [List.map_append]; rfl
theorem putM_len (l : Ents) (x : Int × Int) (v : Value) : (putM l x v).length = if x ∈ l.map Prod.fst then l.length else l.length + 1 := by
  have h := congrArg List.length (putM_keys l x v)
  rw [List.length_map] at h
  rw [h]
  split <;> simp
theorem putM_nd (h : (l.map Prod.fst).Nodup) (x : Int × Int) (v : Value) : ((putM l x v).map Prod.fst).Nodup := by
  rw [putM_keys]
  split
  · exact h
  · rename_i hn
    rw [List.nodup_append]
    refine ⟨h, by simp, fun a ha c hc => ?_⟩
    obtain rfl := List.mem_singleton.1 hc
    exact fun e => hn (e ▸ ha)
theorem Tells.keys {D : DataW Value} (h : Tells D l) {x : Int × Int} (hx : Ok x) : Maps.has D (kl x) = true ↔ x ∈ l.map Prod.fst :=
  ⟨fun hh => by obtain ⟨v, hv⟩ := h.only x hx hh; exact List.mem_map.2 ⟨_, hv, rfl⟩, fun hm => by obtain ⟨e, he, rfl⟩ := List.mem_map.1 hm; exact (h.has e he).1⟩
/-- 'm[k] = v'. -/
theorem Mp.put {T e : TypeId} (h : Mp w b l) (ht : Tryz.prog.underlying T = some (.map 30 e)) (x : Int × Int) (hx : Ok x) (v : Value) (hn : l.length < maxLen) :
    ∃ w', (Instr.mapUpdate T (.map (some b)) (.agg #[.int .i64 x.1, .int .i64 x.2]) v).run Tryz.prog w = .ok () w' ∧ Mp w' b (putM l x v) ∧ w.grownBy w' (some b) := by
  obtain ⟨D, hD, hT⟩ := h.map
  obtain ⟨w', hr, hD', hg⟩ := hD.update law ht (by rw [hT.size]; exact hn) (key_of x hx) (val := v) (d := .held v) (ps := []) rfl
  have hm := hD.isMap
  refine ⟨w', hr, ⟨⟨_, tight hD', ?_, fun f hf => ?_, fun y hy hh => ?_⟩, fun f hf => ?_, putM_nd h.nd x v⟩, hg⟩
  · rw [size_put (hD.tidy law), putM_len, hT.size]
    by_cases hi : x ∈ l.map Prod.fst
    · rw [if_pos ((hT.keys hx).2 hi), if_pos hi]
    · rw [if_neg (fun k => hi ((hT.keys hx).1 k)), if_neg hi]
  · rcases mem_putM.1 hf with rfl | ⟨h1, h2⟩
    · exact ⟨has_put_same hm (kl_key _) _, fun z => atKey_put_same hm (kl_key _) _ z⟩
    · have hne : kl f.1 ≠ kl x := fun k => h2 (kl_inj (h.ok f h1) hx k)
      exact ⟨by rw [has_put_other hne]; exact (hT.has f h1).1, fun z => by rw [atKey_put_other hne]; exact (hT.has f h1).2 z⟩
  · by_cases e1 : y = x
    · subst e1
      exact ⟨v, mem_putM.2 (.inl rfl)⟩
    · rw [has_put_other (fun k => e1 (kl_inj hy hx k))] at hh
      obtain ⟨u, hu⟩ := hT.only y hy hh
      exact ⟨u, mem_putM.2 (.inr ⟨hu, e1⟩)⟩
  · rcases mem_putM.1 hf with rfl | ⟨h1, _⟩
    · exact hx
    · exact h.ok f h1
theorem mem_delM {x : Int × Int} {e : (Int × Int) × Value} : e ∈ delM l x ↔ e ∈ l ∧ e.1 ≠ x := by
  unfold delM
  rw [List.mem_filter, decide_eq_true_iff]
theorem delM_len (h : (l.map Prod.fst).Nodup) (x : Int × Int) : (delM l x).length + (if x ∈ l.map Prod.fst then 1 else 0) = l.length := by
  induction l with
  | nil => simp [delM]
  | cons e l ih =>
    rw [List.map_cons, List.nodup_cons] at h
    have ih := ih h.2
    unfold delM at ih ⊢
    by_cases he : e.1 = x
    · have hx : x ∉ l.map Prod.fst := he ▸ h.1
      rw [if_neg hx] at ih
      rw [List.filter_cons_of_neg (by simp [he]), if_pos (by rw [List.map_cons, he]; exact List.mem_cons_self ..), List.length_cons]
      omega
    · rw [List.filter_cons_of_pos (by simp [he]), List.length_cons, List.length_cons]
      have : (x ∈ (e :: l).map Prod.fst) = (x ∈ l.map Prod.fst) := by
        rw [List.map_cons, List.mem_cons]
        exact propext ⟨fun h => h.resolve_left (fun k => he k.symm), .inr⟩
      rw [show (if x ∈ List.map Prod.fst (e :: l) then 1 else 0) = (if x ∈ List.map Prod.fst l then 1 else 0) by simp only [this]]
      omega
theorem Tells.del {D : DataW Value} (h : Tells D l) (ht : Tidy D) (hk : ∀ e, e ∈ l → Ok e.1) (hn : (l.map Prod.fst).Nodup) {x : Int × Int} (hx : Ok x) : Tells (D.del (kl x)) (delM l x) := by
  refine ⟨?_, fun f hf => ?_, fun y hy hh => ?_⟩
  · have h1 := size_del (k := kl x) ht
    have h2 := delM_len hn x
    rw [h.size] at h1
    by_cases hi : x ∈ l.map Prod.fst
    · rw [if_pos ((h.keys hx).2 hi)] at h1; rw [if_pos hi] at h2; omega
    · rw [if_neg (fun k => hi ((h.keys hx).1 k))] at h1; rw [if_neg hi] at h2; omega
  · obtain ⟨h1, h2⟩ := mem_delM.1 hf
    have hne : kl f.1 ≠ kl x := fun k => h2 (kl_inj (hk f h1) hx k)
    exact ⟨by rw [has_del_other hne]; exact (h.has f h1).1, fun z => by rw [atKey_del_other hne]; exact (h.has f h1).2 z⟩
  · by_cases e1 : y = x
    · subst e1
      rw [has_del_same] at hh
      cases hh
    · rw [has_del_other (fun k => e1 (kl_inj hy hx k))] at hh
      obtain ⟨u, hu⟩ := h.only y hy hh
      exact ⟨u, mem_delM.2 ⟨hu, e1⟩⟩
theorem delM_nd (h : (l.map Prod.fst).Nodup) (x : Int × Int) : ((delM l x).map Prod.fst).Nodup := h.sublist (List.Sublist.map _ List.filter_sublist)
/-- 'delete(m, k)'. -/
theorem Mp.drop {T e : TypeId} (h : Mp w b l) (ht : Tryz.prog.underlying T = some (.map 30 e)) (x : Int × Int) (hx : Ok x) (ty : TypeId) :
    ∃ w', (Builtin.delete_ #[T, 30] ty #[.map (some b), .agg #[.int .i64 x.1, .int .i64 x.2]]).run Tryz.prog w = .ok (.tuple #[]) w' ∧ Mp w' b (delM l x) ∧ w.grownBy w' (some b) := by
  obtain ⟨D, hD, hT⟩ := h.map
  obtain ⟨w', hr, hD', hg⟩ := hD.drop law ht (key_of x hx) ty
  exact ⟨w', hr, ⟨⟨_, tight hD', hT.del (hD.tidy law) h.ok h.nd hx⟩, fun f hf => h.ok f (mem_delM.1 hf).1, delM_nd h.nd x⟩, hg.grown⟩
/-! ### Ranging -/
/-- A range over the map is under way; left: which are still to come. -/
structure Rgm (w : World) (b r : Nat) (l : Ents) (left : Lit → Bool) : Prop where
  map : ∃ (D : DataW Value) (n cnt : Nat), w.ranges Tryz.prog 30 asIs b r n D left cnt ∧ Tells D l
  ok : ∀ e, e ∈ l → Ok e.1
  nd : (l.map Prod.fst).Nodup
theorem Rgm.mp (h : Rgm w b r l left) : Mp w b l := by
  obtain ⟨D, n, cnt, hD, hT⟩ := h.map
  exact ⟨⟨D, tight hD.owns, hT⟩, h.ok, h.nd⟩
theorem Rgm.lt (h : Rgm w b r l left) : b < w.heap.size ∧ r < w.heap.size ∧ r ≠ b := by
  obtain ⟨D, n, cnt, hD, hT⟩ := h.map
  exact ⟨hD.owns.lt, hD.lt, hD.ne⟩
theorem Rgm.kept {row : Option Nat} (h : Rgm w b r l left) (hg : w.grownBy w' row) (hb : some b ≠ row) (hr : some r ≠ row) : Rgm w' b r l left := by
  obtain ⟨D, n, cnt, hD, hT⟩ := h.map
  exact ⟨⟨D, n, cnt, hD.kept hg hb hr, hT⟩, h.ok, h.nd⟩
theorem Rgm.below (h : Rgm w b r l left) (hb : Below w.heap.size w w') : Rgm w' b r l left := h.kept (grown_below hb) (by simp) (by simp)
theorem Rgm.left_kept {row : Option Nat} (h : Rgm w b r l left) (hg : w.grownBy w' row) (hb : some b ≠ row) (hr : some r ≠ row) : w'.rangeLeft b r = w.rangeLeft b r := by
  obtain ⟨D, n, cnt, hD, hT⟩ := h.map
  rw [hD.left_eq, (hD.kept hg hb hr).left_eq]
theorem Rgm.left_below (h : Rgm w b r l left) (hb : Below w.heap.size w w') : w'.rangeLeft b r = w.rangeLeft b r := h.left_kept (grown_below hb) (by simp) (by simp)
def strikeL (left : Lit → Bool) (x : Int × Int) : Lit → Bool := fun z => left z && !z.sameKey (kl x)
/-- Those that have come. -/
def doneL (l : Ents) (left : Lit → Bool) : Ents := l.filter fun e => !left (kl e.1)
theorem done_end (h : ∀ e, e ∈ l → left (kl e.1) = false) : doneL l left = l := by
  unfold doneL
  exact List.filter_eq_self.2 fun e he => by rw [h e he]; rfl
theorem done_step (hk : ∀ e, e ∈ l → Ok e.1) (hn : (l.map Prod.fst).Nodup) {e : (Int × Int) × Value} (he : e ∈ l) (hl : left (kl e.1) = true) : (doneL l (strikeL left e.1)).Perm (doneL l left ++ [e]) := by
  unfold doneL
  induction l with
  | nil => cases he
  | cons f l ih =>
    rw [List.map_cons, List.nodup_cons] at hn
    have hk' : ∀ e, e ∈ l → Ok e.1 := fun e h => hk e (List.mem_cons_of_mem _ h)
    rcases List.mem_cons.1 he with rfl | he
    · rw [List.filter_cons_of_pos (by unfold strikeL; rw [WideAt.sameKey_self (kl_key _)]; simp), List.filter_cons_of_neg (by rw [hl]; simp)]
      have same : l.filter (fun g => !strikeL left e.1 (kl g.1)) = l.filter (fun g => !left (kl g.1)) := by
        refine List.filter_congr fun g hg => ?_
        unfold strikeL
        rw [kl_same (hk' g hg) (hk e he), decide_eq_false (fun k => hn.1 (List.mem_map.2 ⟨g, hg, k⟩))]
        simp
      rw [same]
      exact (List.perm_append_singleton e _).symm
    · have hne : f.1 ≠ e.1 := fun k => hn.1 (List.mem_map.2 ⟨e, he, k.symm⟩)
      have hfs : strikeL left e.1 (kl f.1) = left (kl f.1) := by
        unfold strikeL
        rw [kl_same (hk f (List.mem_cons_self ..)) (hk' e he), decide_eq_false hne]
        simp
      cases hlf : left (kl f.1)
      · rw [List.filter_cons_of_pos (by rw [hfs, hlf]; rfl), List.filter_cons_of_pos (by rw [hlf]; rfl)]
        exact (ih hk' hn.2 he).cons f
      · rw [List.filter_cons_of_neg (by rw [hfs, hlf]; simp), List.filter_cons_of_neg (by rw [hlf]; simp)]
        exact ih hk' hn.2 he
section
variable {ops : Array Oper} {rest : List Oper} {o : Oper} {a : Act} {Q : Exit → Act → World → Prop}
/-- 'range m'. -/
theorem wpList_range_mp {T e : TypeId} (h : Mp w b l) (hg : o.guard = none) (m : Operand) (hop : o.op = Op.range T m) (ht : Tryz.prog.underlying T = some (.map 30 e)) (hm : a.eval m = .map (some b))
    (hK : ∀ w' left, Rgm w' b w.heap.size l left → doneL l left = [] → Below w.heap.size w w' → wpList Tryz.prog ops Q rest (a.put o.dst (.pointer (some ⟨w.heap.size, 0, none⟩))) w') : wpList Tryz.prog ops Q (o :: rest) a w := by
  obtain ⟨D, hD, hT⟩ := h.map
  refine wpList_range_own w hg m T hop 30 e law ht asIs b _ D hm hD (fun w' hrg hgr _ => ?_)
  refine hK w' _ ⟨⟨D, _, _, hrg, hT⟩, h.ok, h.nd⟩ ?_ ((kept_refl w).grown hgr (Nat.le_refl _) (fun k hk => by cases hk))
  unfold doneL
  exact List.filter_eq_nil_iff.2 fun e he => by rw [(hT.has e he).1]; simp
/-- The step: nothing is left, or an entry has come. -/
theorem wpList_next_rg (h : Rgm w b r l left) (hg : o.guard = none) (it : Operand) (hop : o.op = Op.next it false) (hit : a.eval it = .pointer (some ⟨r, 0, none⟩))
    (hDone : doneL l left = l → wpList Tryz.prog ops Q rest (a.put o.dst (.tuple #[.bool false])) w)
    (hMore : ∀ (e : (Int × Int) × Value) (w' : World), e ∈ l → Rgm w' b r l (strikeL left e.1) → (doneL l (strikeL left e.1)).Perm (doneL l left ++ [e]) → w'.rangeLeft b r < w.rangeLeft b r → w.grownBy w' (some r) →
      (Instr.entry (.pointer (some ⟨r, 0, none⟩))).run Tryz.prog w' = .ok (.tuple #[.agg #[.int .i64 e.1.1, .int .i64 e.1.2], e.2]) w' → wpList Tryz.prog ops Q rest (a.put o.dst (.tuple #[.bool true, .agg #[.int .i64 e.1.1, .int .i64 e.1.2], e.2])) w') :
    wpList Tryz.prog ops Q (o :: rest) a w := by
  obtain ⟨D, n, cnt, hD, hT⟩ := h.map
  refine wpList_next_ranges w hg it hop 30 law asIs (fun x : Int × Int => iv x) (fun v : Value => v) (fun key k hk => ?_) (fun v y _ => ⟨v, rfl⟩) b r n D left cnt hit hD (fun _ hl => hDone (done_end fun e _ => hl _)) (fun x c k y w' cnt' hkey hlk hv hat hrg hlt hgr _ hen => ?_)
  · obtain ⟨x, _, e, _⟩ := key_inv hk
    exact ⟨x, e⟩
  · obtain ⟨x', hx', e1, rfl⟩ := key_inv hkey
    have ex : x = x' := by
      obtain ⟨x1, x2⟩ := x
      obtain ⟨y1, y2⟩ := x'
      unfold iv at e1
      simp at e1
      simp [e1]
    subst ex
    have hv : (some (DataW.held c, ([] : List MemPlace))) = some y := hv
    injection hv with hv
    subst hv
    have hh : Maps.has D (kl x) = true := has_true_of_atKey hat
    obtain ⟨v, hm⟩ := hT.only x hx' hh
    have hvc : v = c := by
      have h1 := (hT.has _ hm).2 .nil
      have h2 := hat .nil
      have h3 : (DataW.held v : DataW Value) = .held c := h1.symm.trans h2
      injection h3
    subst hvc
    exact hMore (x, v) w' hm ⟨⟨D, n, cnt', hrg, hT⟩, h.ok, h.nd⟩ (done_step h.ok h.nd hm hlk) (by rw [hrg.left_eq, hD.left_eq]; exact hlt) hgr hen
/-- 'delete(m, k)' in the round, of the entry that has just come. -/
theorem wpList_delete_rg {T e : TypeId} (h : Rgm w b r l left) (hg : o.guard = none) (m x : Operand) (hop : o.op = Op.call { callee := Callee.builtin Builtin.delete, args := #[m, x], argTypes := #[T, 30] })
    (ht : Tryz.prog.underlying T = some (.map 30 e)) (hm : a.eval m = .map (some b)) (k : Int × Int) (hk : Ok k) (hx : a.eval x = .agg #[.int .i64 k.1, .int .i64 k.2])
    (hK : ∀ w', Rgm w' b r (delM l k) (strikeL left k) → w'.rangeLeft b r ≤ w.rangeLeft b r → w.grownBy w' (some b) → wpList Tryz.prog ops Q rest (a.put o.dst (.tuple #[])) w') : wpList Tryz.prog ops Q (o :: rest) a w := by
  obtain ⟨D, n, cnt, hD, hT⟩ := h.map
  refine wpList_delete_ranges w hg m x T 30 hop e law ht asIs b r n D left cnt hm hD _ (kl k) hx (key_of k hk) (fun w' cnt' hrg hle hgr => ?_)
  exact hK w' ⟨⟨_, n, cnt', hrg, hT.del (hD.owns.tidy law) h.ok h.nd hk⟩, fun f hf => h.ok f (mem_delM.1 hf).1, delM_nd h.nd k⟩ (by rw [hrg.left_eq, hD.left_eq]; exact hle) hgr.grown
end
end
end Go.Proofs.YtiaegloipnhhdaaGreat
/- Two chains in one drawn region whose appends are called in their order, S asked only till number m is done. No condition: nothing here speaks of a program. -/
namespace Go.Proofs.YtiaegloipnhhdaaGreat
open Go.RowKit
structure St2 (c1 c2 : Chn) (base : Nat) (w0 w : World) (s1 : Nat) (p1 q1 : Value) (s2 : Nat) (p2 q2 : Value) : Prop where
  a1 : c1.At base w s1 p1 q1
  a2 : c2.At base w s2 p2 q2
  j12 : Jt c1 s1 p1 q1 c2 s2 p2 q2
  kp : Kp3 c1.x0.ownBlock c2.x0.ownBlock none w0 w
  hb : base ≤ w.heap.size
/-- At each state that may come about just these may come. -/
def chk2o (md : Region.Mode) (ops : Array Oper) (L0 : Array Bool) (b1 a1 b2 a2 : Nat) : Bool :=
  [0, 1, 2].all fun s1 => [0, 1, 2].all fun s2 => (s1 == 2 && s2 == 2) || (s2 == 2 && s1 != 2) ||
    (let r := Region.ready md ops (bitC s2 b2 a2 (bitC s1 b1 a1 L0))
     !r.isEmpty && r.all fun i => (s1 == 0 && i == b1) || (s1 == 1 && i == a1) || (s2 == 0 && i == b2) || (s2 == 1 && s1 == 2 && i == a2))
theorem chk2o_at {md : Region.Mode} {ops : Array Oper} {L0 : Array Bool} {b1 a1 b2 a2 : Nat} (h : chk2o md ops L0 b1 a1 b2 a2 = true) {s1 s2 : Nat} (h1 : s1 ≤ 2) (h2 : s2 ≤ 2) (hn : s1 + s2 < 4) (o1 : s2 = 2 → s1 = 2) :
    Region.ready md ops (bitC s2 b2 a2 (bitC s1 b1 a1 L0)) ≠ [] ∧ ∀ i, i ∈ Region.ready md ops (bitC s2 b2 a2 (bitC s1 b1 a1 L0)) → (s1 = 0 ∧ i = b1) ∨ (s1 = 1 ∧ i = a1) ∨ (s2 = 0 ∧ i = b2) ∨ ((s2 = 1 ∧ s1 = 2) ∧ i = a2) := by
  unfold chk2o at h
  have m : ∀ s, s ≤ 2 → s ∈ [0, 1, 2] := fun s hs => by
    rcases s with _ | _ | _ | s
    · simp
    · simp
    · simp
    · omega
  have h4 := List.all_eq_true.1 (List.all_eq_true.1 h s1 (m s1 h1)) s2 (m s2 h2)
  have hf : (s1 == 2 && s2 == 2) = false := by
    cases h5 : (s1 == 2 && s2 == 2)
    · rfl
    · simp at h5; omega
  have hg : (s2 == 2 && s1 != 2) = false := by
    cases h5 : (s2 == 2 && s1 != 2)
    · rfl
    · simp at h5; omega
  rw [hf, hg, Bool.false_or, Bool.false_or, Bool.and_eq_true] at h4
  refine ⟨fun e => by rw [e] at h4; simp at h4, fun i hi => ?_⟩
  have := List.all_eq_true.1 h4.2 i hi
  simpa [or_assoc] using this
section
variable {P : Program} {md : Region.Mode} {ops : Array Oper} {Q : Exit → Act → World → Prop} {S : World → Prop} {m : Nat}
set_option maxHeartbeats 1600000 in
theorem chainsU2o {c1 c2 : Chn} {base : Nat} {a0 : Act} {w0 : World} {L0 : Array Bool} {ou1 os1 ou2 os2 : Operand} {U1 U2 : Value} {b1 a1 b2 a2 nE : Nat}
    (O1 : Op2 P ops Q c1 base ou1 os1 U1 b1 a1) (O2 : Op2 P ops Q c2 base ou2 os2 U2 b2 a2)
    (hc : chk2o md ops L0 b1 a1 b2 a2 = true)
    (hi : [b1, a1, b2, a2].Nodup) (hs : [c1.b, c1.d, c2.b, c2.d].Nodup)
    (hoff : ∀ o, o ∈ [ou1, os1, ou2, os2] → ∀ t, t ∈ [c1.b, c1.d, c2.b, c2.d] → o ≠ .tmp t)
    (hu1 : a0.eval ou1 = U1) (hu2 : a0.eval ou2 = U2) (hx1 : a0.eval os1 = c1.x0) (hx2 : a0.eval os2 = c2.x0)
    (hz1 : c1.b < a0.tmps.size) (hz2 : c2.b < a0.tmps.size)
    (hS : ∀ w, Kp3 c1.x0.ownBlock c2.x0.ownBlock none w0 w → S w)
    (hE : ∀ p1 q1 p2 q2 w, St2 c1 c2 base w0 w 2 p1 q1 2 p2 q2 → anyU P md ops Q S m nE (bitC 2 b2 a2 (bitC 2 b1 a1 L0)) (c2.fr 2 p2 q2 (c1.fr 2 p1 q1 a0)) w) :
    ∀ (r s1 s2 : Nat), s1 ≤ 2 → s2 ≤ 2 → (s2 = 2 → s1 = 2) → r + (s1 + s2) = 4 → ∀ (p1 q1 p2 q2 : Value) (w : World), St2 c1 c2 base w0 w s1 p1 q1 s2 p2 q2 →
      anyU P md ops Q S m (nE + r) (bitC s2 b2 a2 (bitC s1 b1 a1 L0)) (c2.fr s2 p2 q2 (c1.fr s1 p1 q1 a0)) w := by
  have ev : ∀ (o : Operand), o ∈ [ou1, os1, ou2, os2] → ∀ (s1 s2 : Nat) (p1 q1 p2 q2 : Value), (c2.fr s2 p2 q2 (c1.fr s1 p1 q1 a0)).eval o = a0.eval o := fun o ho s1 s2 p1 q1 p2 q2 => by
    rw [c2.fr_eval s2 p2 q2 _ (hoff o ho _ (by simp)) (hoff o ho _ (by simp)), c1.fr_eval s1 p1 q1 _ (hoff o ho _ (by simp)) (hoff o ho _ (by simp))]
  simp only [List.nodup_cons, List.mem_cons, List.not_mem_nil, or_false, not_or, List.nodup_nil, and_true, not_false_eq_true] at hi hs
  obtain ⟨⟨i12, i13, i14⟩, ⟨i23, i24⟩, i34⟩ := hi
  obtain ⟨⟨t12, t13, t14⟩, ⟨t23, t24⟩, t34⟩ := hs
  intro r
  induction r with
  | zero =>
    intro s1 s2 h1 h2 o1 hr p1 q1 p2 q2 w H
    obtain rfl : s1 = 2 := by omega
    obtain rfl : s2 = 2 := by omega
    exact hE p1 q1 p2 q2 w H
  | succ r ih =>
    intro s1 s2 h1 h2 o1 hr p1 q1 p2 q2 w H
    obtain ⟨hne, hall⟩ := chk2o_at hc h1 h2 (by omega) o1
    refine ⟨fun h0 => absurd h0 hne, fun i hin => ?_⟩
    rcases hall i hin with ⟨rfl, rfl⟩ | ⟨rfl, rfl⟩ | ⟨rfl, rfl⟩ | ⟨⟨rfl, _hp⟩, rfl⟩
    · have H' : St2 c1 c2 base w0 (w.alloc (.cells c1.z.toArray c1.e)) 1 (.slice (some ⟨w.heap.size, 0, none⟩) 1 1) q1 s2 p2 q2 := ⟨H.a1.build, H.a2.alloc _, (Jt.build H.j12 H.a2), H.kp.step (World.grownBy_alloc w _ none) (.inl rfl), Nat.le_trans H.hb (World.grownBy_alloc w _ none).size⟩
      refine O1.build _ w _ ((ev _ (by simp) _ _ _ _ _ _).trans hu1) ⟨fun _ _ => hS _ H'.kp, ?_⟩
      have A := ih 1 s2 (by omega) (by omega) (by omega) (by omega) _ q1 p2 q2 _ H'
      rw [bit_set s2 _ (ib := b2) (ia := a2) (i := i) (by first | assumption | (exact Ne.symm (by assumption))) (by first | assumption | (exact Ne.symm (by assumption))), c2.fr_put s2 p2 q2 _ (i := c1.b) (by first | assumption | (exact Ne.symm (by assumption))) (by first | assumption | (exact Ne.symm (by assumption)))]
      exact A
    · obtain ⟨g, hg, hrow⟩ := H.a1.lit rfl
      refine O1.append _ w _ g ((ev _ (by simp) _ _ _ _ _ _).trans hx1) (by rw [c2.fr_eval s2 p2 q2 _ (o := .tmp c1.b) (by simp only [ne_eq, Operand.tmp.injEq]; first | assumption | (exact Ne.symm (by assumption))) (by simp only [ne_eq, Operand.tmp.injEq]; first | assumption | (exact Ne.symm (by assumption))), c1.fr_lit p1 q1 _ (by first | exact hz1 | (simp only [Chn.fr_size]; exact hz1))]; exact hg) H.hb H.a1.row hrow fun v w' hv1 hv2 hv => ?_
      have H' : St2 c1 c2 base w0 w' 2 p1 v s2 p2 q2 := ⟨⟨hv1, fun h => by cases h⟩, H.a2.append (H.j12) hv2, (Jt.append (H.j12) H.a2 hv), H.kp.step hv2 (.inr (.inl rfl)), Nat.le_trans H.hb hv2.size⟩
      refine ⟨fun _ _ => hS _ H'.kp, ?_⟩
      have A := ih 2 s2 (by omega) (by omega) (by omega) (by omega) p1 v p2 q2 _ H'
      rw [bit_set s2 _ (ib := b2) (ia := a2) (i := i) (by first | assumption | (exact Ne.symm (by assumption))) (by first | assumption | (exact Ne.symm (by assumption))), c2.fr_put s2 p2 q2 _ (i := c1.d) (by first | assumption | (exact Ne.symm (by assumption))) (by first | assumption | (exact Ne.symm (by assumption)))]
      exact A
    · have H' : St2 c1 c2 base w0 (w.alloc (.cells c2.z.toArray c2.e)) s1 p1 q1 1 (.slice (some ⟨w.heap.size, 0, none⟩) 1 1) q2 := ⟨H.a1.alloc _, H.a2.build, (Jt.build H.j12.symm H.a1).symm, H.kp.step (World.grownBy_alloc w _ none) (.inl rfl), Nat.le_trans H.hb (World.grownBy_alloc w _ none).size⟩
      refine O2.build _ w _ ((ev _ (by simp) _ _ _ _ _ _).trans hu2) ⟨fun _ _ => hS _ H'.kp, ?_⟩
      have A := ih s1 1 (by omega) (by omega) (by omega) (by omega) p1 q1 _ q2 _ H'
      exact A
    · obtain ⟨g, hg, hrow⟩ := H.a2.lit rfl
      refine O2.append _ w _ g ((ev _ (by simp) _ _ _ _ _ _).trans hx2) (by rw [c2.fr_lit p2 q2 _ (by first | exact hz2 | (simp only [Chn.fr_size]; exact hz2))]; exact hg) H.hb H.a2.row hrow fun v w' hv1 hv2 hv => ?_
      have H' : St2 c1 c2 base w0 w' s1 p1 q1 2 p2 v := ⟨H.a1.append (H.j12.symm) hv2, ⟨hv1, fun h => by cases h⟩, (Jt.append (H.j12.symm) H.a1 hv).symm, H.kp.step hv2 (.inr (.inr (.inl rfl))), Nat.le_trans H.hb hv2.size⟩
      refine ⟨fun _ _ => hS _ H'.kp, ?_⟩
      have A := ih s1 2 (by omega) (by omega) (by omega) (by omega) p1 q1 p2 v _ H'
      exact A
theorem chainsU2o_go {c1 c2 : Chn} {base : Nat} {a0 : Act} {w0 : World} {L0 : Array Bool} {ou1 os1 ou2 os2 : Operand} {U1 U2 : Value} {b1 a1 b2 a2 nE : Nat}
    (O1 : Op2 P ops Q c1 base ou1 os1 U1 b1 a1) (O2 : Op2 P ops Q c2 base ou2 os2 U2 b2 a2)
    (hc : chk2o md ops L0 b1 a1 b2 a2 = true)
    (hi : [b1, a1, b2, a2].Nodup) (hs : [c1.b, c1.d, c2.b, c2.d].Nodup)
    (hoff : ∀ o, o ∈ [ou1, os1, ou2, os2] → ∀ t, t ∈ [c1.b, c1.d, c2.b, c2.d] → o ≠ .tmp t)
    (hu1 : a0.eval ou1 = U1) (hu2 : a0.eval ou2 = U2) (hx1 : a0.eval os1 = c1.x0) (hx2 : a0.eval os2 = c2.x0)
    (hz1 : c1.b < a0.tmps.size) (hz2 : c2.b < a0.tmps.size)
    (r1 : Rw base c1.e c1.sz w0 c1.x0 c1.xs) (r2 : Rw base c2.e c2.sz w0 c2.x0 c2.xs) (p12 : Ap c1.x0 c2.x0) (hb : base ≤ w0.heap.size)
    (hS : ∀ w, Kp3 c1.x0.ownBlock c2.x0.ownBlock none w0 w → S w)
    (hE : ∀ p1 q1 p2 q2 w, Rw base c1.e c1.sz w q1 (c1.xs ++ [c1.z]) → Rw base c2.e c2.sz w q2 (c2.xs ++ [c2.z]) → Ap q1 q2 → Kp3 c1.x0.ownBlock c2.x0.ownBlock none w0 w →
      anyU P md ops Q S m nE ((((L0.setIfInBounds b1 true).setIfInBounds a1 true).setIfInBounds b2 true).setIfInBounds a2 true) ((((a0.put (some c1.b) p1).put (some c1.d) q1).put (some c2.b) p2).put (some c2.d) q2) w) :
    anyU P md ops Q S m (nE + 4) L0 a0 w0 := by
  have st : St2 c1 c2 base w0 w0 0 undef undef 0 undef undef :=
    ⟨⟨r1, fun h => by cases h⟩, ⟨r2, fun h => by cases h⟩, ⟨p12, (fun h => by cases h), fun h => by cases h⟩, Kp3.refl _ _ _ _, hb⟩
  have hE' : ∀ p1 q1 p2 q2 w, St2 c1 c2 base w0 w 2 p1 q1 2 p2 q2 → anyU P md ops Q S m nE (bitC 2 b2 a2 (bitC 2 b1 a1 L0)) (c2.fr 2 p2 q2 (c1.fr 2 p1 q1 a0)) w := fun p1 q1 p2 q2 w H => by
    rw [bit_two, bit_two, fr_two, fr_two]
    exact hE p1 q1 p2 q2 w H.a1.row H.a2.row H.j12.ap H.kp
  have A := chainsU2o O1 O2 hc hi hs hoff hu1 hu2 hx1 hx2 hz1 hz2 hS hE' 4 0 0 (by omega) (by omega) (by omega) rfl undef undef undef undef w0 st
  rw [bit_zero, bit_zero, fr_zero, fr_zero] at A
  exact A
end
end Go.Proofs.YtiaegloipnhhdaaGreat
/- Structs stored into own rows, a chain's two operations for structs; a row of seven told anew; literals of one instance, of one cell. Conditions: a cell's attributes are eight numbers. -/
namespace Go.Proofs.YtiaegloipnhhdaaGreat
set_option maxRecDepth 100000
open Go.RowKit
theorem ix_map7 (f : Nat → Int) {k : Nat} (hk : k < 7) : ix ((List.range 7).map f) k = f k := by
  rw [ix_lt _ (by simp; exact hk)]
  simp
theorem len_map7 (f : Nat → Int) : ((List.range 7).map f).length = 7 := by simp
/-- A row of seven, told anew place by place. -/
def genk (f : Nat → Int) (a : List Int) (k : Nat) : List Int := (List.range 7).map fun i => if i < k then f i else ix a i
theorem genk_len (f : Nat → Int) (a : List Int) (k : Nat) : (genk f a k).length = 7 := len_map7 _
theorem genk_0 (f : Nat → Int) {a : List Int} (h : a.length = 7) : genk f a 0 = a := by
  refine List.ext_getElem (by rw [genk_len, h]) fun i h1 h2 => ?_
  rw [← ix_lt _ h1, ← ix_lt _ h2, genk, ix_map7 _ (by rw [h] at h2; exact h2), if_neg (Nat.not_lt_zero _)]
theorem genk_at (f : Nat → Int) (a : List Int) {k : Nat} (hk : k < 7) : ix (genk f a k) k = ix a k := by rw [genk, ix_map7 _ hk, if_neg (Nat.lt_irrefl _)]
theorem genk_step (f : Nat → Int) (a : List Int) (k : Nat) : (genk f a k).set k (f k) = genk f a (k + 1) := by
  refine List.ext_getElem (by rw [List.length_set, genk_len, genk_len]) fun i h1 h2 => ?_
  have hi : i < 7 := by rw [genk_len] at h2; exact h2
  rw [List.getElem_set]
  have e2 : (genk f a (k + 1))[i]'h2 = if i < k + 1 then f i else ix a i := by rw [← ix_lt _ h2, genk, ix_map7 _ hi]
  rw [e2]
  by_cases hik : k = i
  · subst hik
    rw [if_pos rfl, if_pos (by omega)]
  · rw [if_neg hik, ← ix_lt _ (by rw [genk_len]; exact hi), genk, ix_map7 _ hi]
    by_cases h3 : i < k
    · rw [if_pos h3, if_pos (by omega)]
    · rw [if_neg h3, if_neg (by omega)]
theorem genk_7 (f : Nat → Int) (a : List Int) : genk f a 7 = (List.range 7).map f := by
  unfold genk
  exact List.map_congr_left fun i hi => if_pos (List.mem_range.1 hi)
theorem Rw.low {base b2 sz : Nat} {e : TypeId} {w : World} {v : Value} {xs : List (List Value)} (h : Rw base e sz w v xs) (hb : b2 ≤ base) : Rw b2 e sz w v xs := by
  unfold Rw at h ⊢
  refine ⟨h.1, h.2.imp_right ?_⟩
  rintro ⟨g, cap, cur, e1, h1, h2⟩
  exact ⟨g, cap, cur, e1, Nat.le_trans hb h1, h2⟩
theorem take_app {α : Type} (x L : List α) (k : Nat) : (x ++ L).take (x.length + k) = x ++ L.take k := by rw [List.take_append, List.take_of_length_le (Nat.le_add_right _ _), Nat.add_sub_cancel_left]
theorem drop_app {α : Type} (x L : List α) (k : Nat) : (x ++ L).drop (x.length + k) = L.drop k := by rw [← List.drop_drop, List.drop_left]
theorem cellsV_set {sz : Nat} : ∀ {xs : List (List Value)} {j : Nat}, AllV sz xs → j < xs.length → ∀ y : List Value, cellsV (xs.set j y) = (cellsV xs).take (j * sz) ++ y ++ (cellsV xs).drop (j * sz + sz)
  | [], j, _, hj, _ => absurd hj (Nat.not_lt_zero _)
  | x :: xs, 0, ha, _, y => by
    have hx := (ha x (List.mem_cons_self ..)).1
    rw [List.set_cons_zero, cellsV_cons, cellsV_cons, Nat.zero_mul, Nat.zero_add, List.take_zero, List.nil_append, ← hx, List.drop_left]
  | x :: xs, j + 1, ha, hj, y => by
    have hx := (ha x (List.mem_cons_self ..)).1
    have ih := cellsV_set (j := j) (fun z hz => ha z (List.mem_cons_of_mem _ hz)) (Nat.lt_of_succ_lt_succ hj) y
    have e : (j + 1) * sz = x.length + j * sz := by rw [Nat.succ_mul, hx]; omega
    rw [List.set_cons_succ, cellsV_cons, cellsV_cons, ih, e, take_app, Nat.add_assoc, drop_app]
    simp only [List.append_assoc]
/-- One of a row's structs, stored anew. -/
theorem rw_stored {base sz gg n m : Nat} {e : TypeId} {w : World} {xs : List (List Value)} (h : Rw base e sz w (.slice (some ⟨gg, 0, none⟩) n m) xs) (ha : AllV sz xs) {j : Nat} (hj : j < xs.length) {y : List Value} (hy : y.length = sz) (h1 : ∀ u ∈ y, u.oneCell' = true) :
    ∃ w', (storeCells ⟨gg, j * sz, none⟩ y 0).run Tryz.prog w = .ok () w' ∧ Rw base e sz w' (.slice (some ⟨gg, 0, none⟩) n m) (xs.set j y) ∧ w.grownBy w' (some gg) := by
  unfold Rw at h ⊢
  rcases h.2 with ⟨e0, _⟩ | ⟨g2, cap, cur, e0, hb, hg, hnc, hcm, hcs, htake⟩
  · cases e0
  · injection e0 with e1 e2 e3
    injection e1 with e1
    injection e1 with e1 _ _
    subst e1 e2 e3
    have hl := length_cellsV ha
    have hjz : j * sz + sz ≤ xs.length * sz := by
      have := Nat.mul_le_mul_right sz hj
      rw [Nat.succ_mul] at this
      exact this
    have hnz : xs.length * sz ≤ m * sz := Nat.mul_le_mul_right _ hnc
    have hs := run_storeCells_at Tryz.prog gg (j * sz) e y 0 cur w hg (by rw [hcs, hy]; omega) h1
    refine ⟨_, hs, ⟨?_, .inr ⟨gg, m, _, by rw [List.length_set], hb, setRow_heap w gg cur _ e _ hg, by rw [List.length_set]; exact hnc, hcm, ?_, ?_⟩⟩, ⟨rfl, rfl, rfl, by simp, fun k _ hk => setRow_other w gg k _ (fun e => hk (by rw [e]))⟩⟩
    · rw [length_cellsV (m := sz) (fun z hz => by
        rcases List.mem_or_eq_of_mem_set hz with hz | rfl
        · exact ha z hz
        · exact ⟨hy, h1⟩)]
    · rw [List.size_toArray, List.length_append, List.length_append, List.length_take, List.length_drop, Array.length_toList, hcs, hy]
      omega
    · rw [List.length_set, cellsV_set ha hj, Nat.add_zero, hy]
      have htl : cur.toList.take (xs.length * sz) = cellsV xs := htake
      have c1 : (cellsV xs).take (j * sz) = cur.toList.take (j * sz) := by rw [← htl, List.take_take, Nat.min_eq_left (by omega)]
      have c2 : (cellsV xs).drop (j * sz + sz) = (cur.toList.drop (j * sz + sz)).take (xs.length * sz - (j * sz + sz)) := by rw [← htl, List.drop_take]
      rw [c1, c2]
      have hcl : cur.toList.length = m * sz := by rw [Array.length_toList, hcs]
      have hp : (cur.toList.take (j * sz) ++ y).length = j * sz + sz := by rw [List.length_append, List.length_take, hcl, hy]; omega
      show List.take (xs.length * sz) (cur.toList.take (j * sz) ++ y ++ cur.toList.drop (j * sz + sz)) = _
      rw [List.take_append, List.take_of_length_le (by rw [hp]; exact hjz), hp]
/-- .. as a step of a drawn region. -/
theorem step_store_rw {ops : Array Oper} {d : Option Tmp} {ty T : TypeId} {ps : String} {af : Array Edge} {p v : Operand} {a : Act} {w : World} {K : Act → World → Prop} {Q : Exit → Act → World → Prop} {E : Prop} {base sz gg n m off : Nat} {e : TypeId} {xs : List (List Value)} {y : List Value} {V : Value} (j : Nat)
    (hx : a.eval p = .pointer (some ⟨gg, off, none⟩)) (hv : a.eval v = V) (hoff : off = j * sz) (hc : V.cells = y.toArray) (h : Rw base e sz w (.slice (some ⟨gg, 0, none⟩) n m) xs) (ha : AllV sz xs) (hj : j < xs.length) (hy : y.length = sz) (h1 : ∀ u ∈ y, u.oneCell' = true) (hi : (Tryz.prog.info? T).map (·.size) = some sz)
    (hk : ∀ w', Rw base e sz w' (.slice (some ⟨gg, 0, none⟩) n m) (xs.set j y) → w.grownBy w' (some gg) → K (a.put d undef) w') :
    if Region.wanted ({ dst := d, op := .store T p v, type := ty, pos := ps, after := af, guard := none } : Oper) (yielded ops a.tmps) = true then Oper.wp Tryz.prog { dst := d, op := .store T p v, type := ty, pos := ps, after := af, guard := none } a w K Q else E := by
  rw [if_pos (by simp [Region.wanted])]
  subst hoff
  obtain ⟨w', hs, h2, h3⟩ := rw_stored h ha hj hy h1
  have hq : (storeVar T ⟨gg, j * sz, none⟩ V).run Tryz.prog w = .ok () w' := by
    cases hq : Tryz.prog.info? T with
    | none => simp [hq] at hi
    | some i =>
      have hs6 : i.size = sz := by simpa [hq] using hi
      simp [storeVar, sizeOf, typeInfo, hq, hc, hs6, hy, hs]
  unfold Oper.wp execOp
  simp only [hx, hv, Instr.storeAt, Instr.sureAddr, Sem.run_bind, Sem.run_pure, Result.andThen_ok, hq]
  exact hk w' h2 h3
/-- What elements of a row are. -/
def ElM (T e : TypeId) (sz : Nat) : Prop := ∃ i z by', Tryz.prog.underlying T = some (.slice e) ∧ Tryz.prog.info? e = some i ∧ i.zero = some z ∧ i.size = sz ∧ i.bytes = by' ∧ z.cells.size = sz ∧ by' ≤ 200
/-- A chain's two operations: the literal of one struct, and its append. -/
theorem op2m_of {T e : TypeId} {sz : Nat} (hE : ElM T e sz) (hs0 : 0 < sz) {ops : Array Oper} {Q : Exit → Act → World → Prop} {base b d : Nat} {xs : List (List Value)} {z : List Value} {x0 U : Value} {ou os : Operand} {ib ia : Nat} {ob oa : Oper} (hz : z.length = sz) (h1 : ∀ u ∈ z, u.oneCell' = true)
    (hrun : ∀ w, (Instr.buildSlice T 1 #[(0, U)]).run Tryz.prog w = .ok (.slice (some ⟨w.heap.size, 0, none⟩) 1 1) (w.alloc (.cells z.toArray e)))
    (hob : ops[ib]? = some ob) (hgb : ob.guard = none) (hdb : ob.dst = some b) (hbo : ob.op = .buildSlice T 1 #[(0, ou)])
    (hoa : ops[ia]? = some oa) (hga : oa.guard = none) (hda : oa.dst = some d) (hao : oa.op = .call { callee := .builtin .append, args := #[os, .tmp b], argTypes := #[T, T] }) (hb : xs.length + 1 ≤ 1001) :
    Op2 Tryz.prog ops Q ⟨b, d, e, sz, xs, z, x0⟩ base ou os U ib ia := by
  obtain ⟨i, zz, by', hu, hi, hz0, hz1, hz2, hz3, hby⟩ := hE
  refine ⟨fun a w K h2 h3 => ?_, fun a w K g h2 h3 h4 h5 h6 h7 => ?_⟩
  · refine wpOp_step hob (fun K' hK => ?_)
    have hw : Region.wanted ob (yielded ops a.tmps) = true := by simp [Region.wanted, hgb]
    rw [if_pos hw]
    unfold Oper.wp execOp
    simp only [hbo, Sem.run_bind, Sem.run_pure, Result.andThen_ok, List.map_toArray, List.map_cons, List.map_nil, h2, hrun]
    refine hK _ _ ?_
    rw [hdb]
    exact h3
  · refine wpOp_step hoa (fun K' hK => ?_)
    have hw : Region.wanted oa (yielded ops a.tmps) = true := by simp [Region.wanted, hga]
    rw [if_pos hw]
    have hbb : (xs.length + 1) * by' ≤ 1001 * 200 := Nat.mul_le_mul hb hby
    obtain ⟨v', w', hr, r1, r2, _, r4⟩ := run_append_own_at (P := Tryz.prog) (w := w) base T oa.type e i zz sz by' hu hi hz0 hz1 hz2 hz3 hs0 x0 xs.length (cellsV xs) h5 ⟨g, 0, none⟩ 1 1 z (by omega) (fun j u hj => by
      have := h6.cell j
      rw [Go.WideShapes.add_plain, Nat.zero_add, this]
      simpa using hj) h1 (by unfold maxLen; omega) (by omega) h4
    unfold Oper.wp execOp
    simp only [hao, resolve, invoke, builtin, Sem.run_bind, Sem.run_pure, Result.andThen_ok, List.map_toArray, List.map_cons, List.map_nil, h2, h3, hr]
    refine hK _ _ ?_
    rw [hda]
    refine h7 v' w' ?_ r2 r4
    unfold Rw
    rw [List.length_append, cellsV_append]
    have : cellsV [z] = z := by unfold cellsV; simp
    rw [this]
    exact r1
theorem lit_inst (r s : Int) (w : World) : (Instr.buildSlice 48 1 #[(0, .agg #[.int .i64 r, .int .i64 s])]).run Tryz.prog w = .ok (.slice (some ⟨w.heap.size, 0, none⟩) 1 1) (w.alloc (.cells [Value.int .i64 r, .int .i64 s].toArray 30)) := by
  have u9 := Tryz.underlying48
  have z9 := Tryz.sizeOf30
  go_simp
theorem elm_inst : ElM 48 30 2 := ⟨_, _, _, rfl, rfl, rfl, rfl, rfl, rfl, by decide⟩
theorem rw_nil (base : Nat) (e : TypeId) (sz : Nat) (w : World) : Rw base e sz w (.slice none 0 0) [] := ⟨by simp [cellsV], .inl ⟨rfl, rfl⟩⟩
section
variable {base g : Nat} {w : World} {vI vC : Value} {k : List Lc} {d : List Int}
end
end Go.Proofs.YtiaegloipnhhdaaGreat
/- The program's own Log in memory: a map of cells at their instances, the cut. No condition: no walk. -/
namespace Go.Proofs.YtiaegloipnhhdaaGreat
set_option maxRecDepth 100000
open Go.RowKit Go.Maps
/-- Cells at their instances, as a map's entries. -/
def kL (m : List Lc) : Ents := m.map fun e => (e.i, .agg (clC e.c))
theorem kL_keys (m : List Lc) : (kL m).map Prod.fst = m.map Lc.i := by unfold kL; rw [List.map_map]; rfl
theorem kL_len (m : List Lc) : (kL m).length = m.length := List.length_map _
theorem mem_kL {m : List Lc} {z : (Int × Int) × Value} : z ∈ kL m ↔ ∃ e, e ∈ m ∧ (e.i, Value.agg (clC e.c)) = z := List.mem_map
/-- A Log's eight cells. -/
def pgC (b : Nat) (d : List Int) : Array Value := (Value.map (some b) :: cellsR d).toArray
theorem pgC_cut (b : Nat) (d : List Int) {k : Nat} (hk : k < d.length) : (pgC b d)[1 + k]? = some (.int .i64 (ix d k)) := by
  unfold pgC cellsR
  rw [List.getElem?_toArray, show 1 + k = k + 1 by omega, List.getElem?_cons_succ, List.getElem?_map, List.getElem?_eq_getElem hk, ix_lt _ hk]
  rfl
theorem pgC_put (b : Nat) (d : List Int) (k : Nat) (v : Int) : (pgC b d).setIfInBounds (1 + k) (.int .i64 v) = pgC b (d.set k v) := by
  unfold pgC cellsR
  rw [List.setIfInBounds_toArray, show 1 + k = k + 1 by omega, List.set_cons_succ, List.map_set]
theorem mp_off {w : World} {b g : Nat} {l : Ents} {t : TypeId} {cs : Array Value} (h : Mp w b l) (hr : Row w g t cs) : b ≠ g := by
  rintro rfl
  obtain ⟨D, ⟨es, c, hb, _⟩, _⟩ := h.map
  unfold Row at hr
  rw [hr] at hb
  cases hb
theorem Mp.kq {o : Nat → Prop} {w w' : World} {b : Nat} {l : Ents} (h : Mp w b l) (hk : Kq o w w') (hn : ¬ o b) : Mp w' b l := by
  obtain ⟨D, ⟨es, c, hb, F, hs, rfl⟩, hm⟩ := h.map
  exact ⟨⟨_, ⟨es, c, (hk.block b h.lt hn).trans hb, F, hs, rfl⟩, hm⟩, h.ok, h.nd⟩
/-- The map in block b holds these cells, in whatever order. -/
structure Pm (w : World) (b : Nat) (k : List Lc) : Prop where
  mp : ∃ m : List Lc, m.Perm k ∧ Mp w b (kL m)
/-- The Log at block g, its map in block b. -/
structure Pg (w : World) (g b : Nat) (x : Lw) : Prop where
  row : Row w g 62 (pgC b x.d)
  pm : Pm w b x.k
  kl : Kl x
section
variable {w w' : World} {g b : Nat} {x : Lw} {k : List Lc} {o : Nat → Prop}
theorem Pm.lt (h : Pm w b k) : b < w.heap.size := by obtain ⟨m, _, hm⟩ := h.mp; exact hm.lt
theorem Pm.off {t : TypeId} {cs : Array Value} (h : Pm w b k) (hr : Row w g t cs) : b ≠ g := by obtain ⟨m, _, hm⟩ := h.mp; exact mp_off hm hr
theorem Pm.kq (h : Pm w b k) (hk : Kq o w w') (hn : ¬ o b) : Pm w' b k := by obtain ⟨m, hp, hm⟩ := h.mp; exact ⟨m, hp, hm.kq hk hn⟩
theorem Pm.below (h : Pm w b k) (hb : Below w.heap.size w w') : Pm w' b k := h.kq (o := fun _ => False) (.of_below hb) (fun e => e)
theorem Pg.ne (h : Pg w g b x) : b ≠ g := h.pm.off h.row
theorem Pg.lt (h : Pg w g b x) : g < w.heap.size ∧ b < w.heap.size := ⟨h.row.lt, h.pm.lt⟩
theorem Pg.kq (h : Pg w g b x) (hk : Kq o w w') (h1 : ¬ o g) (h2 : ¬ o b) : Pg w' g b x := ⟨hk.row h.row h1, h.pm.kq hk h2, h.kl⟩
theorem Pg.below (h : Pg w g b x) (hb : Below w.heap.size w w') : Pg w' g b x := h.kq (o := fun _ => False) (.of_below hb) (fun e => e) (fun e => e)
theorem Pg.alloc (h : Pg w g b x) (o : Obj) : Pg (w.alloc o) g b x := h.below ((Below.refl _ _).alloc (Nat.le_refl _) o)
theorem Pg.drew (h : Pg w g b x) : Pg w.drew g b x := h.below (kept_drewN (kept_refl w) 1)
theorem Pg.known (h : Pg w g b x) : w.cell? ⟨g, 0, none⟩ = some (.map (some b)) := h.row.cell 0
theorem Pg.cuts (h : Pg w g b x) : w.rangeAt g 1 (cellsR x.d) := h.row.mid (A := [.map (some b)]) (B := []) (by unfold pgC; simp) rfl
end
/-! ### Looking up -/
theorem cell_perm {k m : List Lc} (hu : k.Pairwise fun e f => ltP e.i f.i = true) (hp : m.Perm k) {i : Int × Int} : getM (kL m) i = (cellL k i).map fun c => .agg (clC c) := by
  have hn : ((kL m).map Prod.fst).Nodup := by
    rw [kL_keys]
    refine (hp.map Lc.i).nodup_iff.2 ?_
    exact (List.pairwise_map.2 (hu.imp fun h => ltP_ne h))
  cases hc : cellL k i with
  | some c => exact getM_some hn (mem_kL.2 ⟨⟨i, c⟩, hp.mem_iff.2 (cell_mem hc), rfl⟩)
  | none =>
    refine getM_none fun hm => ?_
    rw [kL_keys] at hm
    obtain ⟨e, he, rfl⟩ := List.mem_map.1 hm
    have := (cell_iff (c := e.c) hu).2 (hp.mem_iff.1 he)
    rw [hc] at this
    cases this
theorem zero_cell (w : World) : (zeroValue 38).run Tryz.prog w = .ok (.agg (clC zeroCl)) w := by kernel_rfl
section
variable {w w' : World} {g b : Nat} {x : Lw} {k : List Lc} {o : Nat → Prop}
theorem Pm.look (h : Pm w b k) (hu : k.Pairwise fun e f => ltP e.i f.i = true) (i : Int × Int) (hi : Ok i) :
    (Instr.lookup 60 (.map (some b)) (.agg #[.int .i64 i.1, .int .i64 i.2]) true).run Tryz.prog w = .ok (cellV (cellL k i)) w := by
  obtain ⟨m, hp, hm⟩ := h.mp
  rw [hm.look Tryz.underlying60 (zero_cell w) i hi, cell_perm hu hp]
  unfold cellV
  cases cellL k i <;> rfl
end
/-! ### Putting -/
/-- A cell put into a list, wherever. -/
def putG (m : List Lc) (i : Int × Int) (c : Cl) : List Lc := if i ∈ m.map Lc.i then m.map (fun e => if e.i = i then ⟨i, c⟩ else e) else m ++ [⟨i, c⟩]
theorem putM_kL (m : List Lc) (i : Int × Int) (c : Cl) : putM (kL m) i (.agg (clC c)) = kL (putG m i c) := by
  unfold putM putG
  rw [kL_keys]
  by_cases h : i ∈ m.map Lc.i
  · rw [if_pos h, if_pos h]
    unfold kL
    rw [List.map_map, List.map_map]
    refine List.map_congr_left fun e _ => ?_
    show (if e.i = i then (i, Value.agg (clC c)) else (e.i, Value.agg (clC e.c))) = ((if e.i = i then (⟨i, c⟩ : Lc) else e).i, Value.agg (clC (if e.i = i then (⟨i, c⟩ : Lc) else e).c))
    by_cases h2 : e.i = i
    · rw [if_pos h2, if_pos h2]
    · rw [if_neg h2, if_neg h2]
  · rw [if_neg h, if_neg h]
    unfold kL
    rw [List.map_append]
    rfl
theorem mem_putG {m : List Lc} {i : Int × Int} {c : Cl} {e : Lc} : e ∈ putG m i c ↔ e = ⟨i, c⟩ ∨ (e ∈ m ∧ e.i ≠ i) := by
  unfold putG
  split
  · rename_i h
    rw [List.mem_map]
    constructor
    · rintro ⟨f, hf, rfl⟩
      split
      · exact .inl rfl
      · rename_i h2
        exact .inr ⟨hf, h2⟩
    · rintro (rfl | ⟨h1, h2⟩)
      · obtain ⟨f, hf, h3⟩ := List.mem_map.1 h
        exact ⟨f, hf, by rw [if_pos h3]⟩
      · exact ⟨e, h1, by rw [if_neg h2]⟩
  · rename_i h
    rw [List.mem_append, List.mem_singleton]
    constructor
    · rintro (h1 | rfl)
      · exact .inr ⟨h1, fun e1 => h (List.mem_map.2 ⟨e, h1, e1⟩)⟩
      · exact .inl rfl
    · rintro (rfl | ⟨h1, _⟩)
      · exact .inr rfl
      · exact .inl h1
theorem up_nodup {k : List Lc} (hu : k.Pairwise fun e f => ltP e.i f.i = true) : k.Nodup := hu.imp fun h e => by rw [e, ltP_irrefl] at h; cases h
theorem keys_nodup {m : List Lc} (h : (m.map Lc.i).Nodup) : m.Nodup := by
  have := List.pairwise_map.1 h
  exact this.imp fun h e => h (by rw [e])
theorem putG_perm {k m : List Lc} (hu : k.Pairwise fun e f => ltP e.i f.i = true) (hp : m.Perm k) (hn : (m.map Lc.i).Nodup) (i : Int × Int) (c : Cl) : (putG m i c).Perm (putL k i c) := by
  have h1 := putM_nd (l := kL m) (by rw [kL_keys]; exact hn) i (.agg (clC c))
  rw [putM_kL, kL_keys] at h1
  refine (List.perm_ext_iff_of_nodup (keys_nodup h1) (up_nodup (put_up hu))).2 fun e => ?_
  rw [mem_putG, mem_put hu, hp.mem_iff]
section
variable {w w' : World} {g b : Nat} {x : Lw} {k : List Lc} {o : Nat → Prop}
theorem Pm.put (h : Pm w b k) (hu : k.Pairwise fun e f => ltP e.i f.i = true) (i : Int × Int) (hi : Ok i) (c : Cl) (hn : k.length ≤ 1000000000) :
    ∃ w', (Instr.mapUpdate 60 (.map (some b)) (.agg #[.int .i64 i.1, .int .i64 i.2]) (.agg (clC c))).run Tryz.prog w = .ok () w' ∧ Pm w' b (putL k i c) ∧ w.grownBy w' (some b) := by
  obtain ⟨m, hp, hm⟩ := h.mp
  obtain ⟨w', h1, h2, h3⟩ := hm.put Tryz.underlying60 i hi (.agg (clC c)) (by rw [kL_len, hp.length_eq]; unfold maxLen; omega)
  rw [putM_kL] at h2
  exact ⟨w', h1, ⟨_, putG_perm hu hp (by have := hm.nd; rwa [kL_keys] at this) i c, h2⟩, h3⟩
end
end Go.Proofs.YtiaegloipnhhdaaGreat
/- Reach of package deps. No condition. -/
namespace Go.Proofs.YtiaegloipnhhdaaGreat
open Go.RowKit
/-- A row of slots and an instance, boxed. -/
structure Rs (W w : World) (g h : Nat) (t u : TypeId) (d1 d2 d3 d4 d5 d6 d7 r s : Int) : Prop where
  low : Below W.heap.size W w
  d : Row w g t #[.int .i64 d1, .int .i64 d2, .int .i64 d3, .int .i64 d4, .int .i64 d5, .int .i64 d6, .int .i64 d7]
  i : Row w h u #[.int .i64 r, .int .i64 s]
theorem Rs.step {W w w' : World} {g h : Nat} {t u : TypeId} {d1 d2 d3 d4 d5 d6 d7 r s : Int} (k : Rs W w g h t u d1 d2 d3 d4 d5 d6 d7 r s) (hb : Below w.heap.size w w') : Rs W w' g h t u d1 d2 d3 d4 d5 d6 d7 r s :=
  ⟨kept_trans k.low hb, k.d.below hb k.d.lt, k.i.below hb k.i.lt⟩
set_option maxHeartbeats 1000000 in
theorem reach_any (d1 d2 d3 d4 d5 d6 d7 r s : Int) (w : World) : Calls Tryz.prog 51 #[.agg #[.int .i64 d1, .int .i64 d2, .int .i64 d3, .int .i64 d4, .int .i64 d5, .int .i64 d6, .int .i64 d7], .agg #[.int .i64 r, .int .i64 s]] w fun e w' =>
    e = .returned (.bool (reachB [d1, d2, d3, d4, d5, d6, d7] r s)) ∧ Below w.heap.size w w' := by
  have hr := hide fun w => i_right_any r s w
  have st0 := hide (show Rs w ((w.alloc (.cells #[.int .i64 d1, .int .i64 d2, .int .i64 d3, .int .i64 d4, .int .i64 d5, .int .i64 d6, .int .i64 d7] 26)).alloc (.cells #[.int .i64 r, .int .i64 s] 30)).drew w.heap.size (w.heap.size + 1) 26 30 d1 d2 d3 d4 d5 d6 d7 r s from
    ⟨kept_drewN (kept_alloc (kept_alloc (kept_refl w) _) _) 1, ((Row.new w _ _).alloc _).drew, by have h := (Row.new (w.alloc (.cells #[.int .i64 d1, .int .i64 d2, .int .i64 d3, .int .i64 d4, .int .i64 d5, .int .i64 d6, .int .i64 d7] 26)) 30 #[.int .i64 r, .int .i64 s]).drew; simpa using h⟩)
  by_cases hri : rightI r s = true
  · obtain ⟨⟨r0, r7⟩, s1, s2⟩ := rightI_says hri
    obtain ⟨k, rfl⟩ : ∃ k : Nat, r = k := ⟨r.toNat, by omega⟩
    have hk : k < 7 := by omega
    have he : reachB [d1, d2, d3, d4, d5, d6, d7] k s = decide (s ≤ ix [d1, d2, d3, d4, d5, d6, d7] k) := by unfold reachB; rw [hri, Int.toNat_natCast]; rfl
    rw [he]
    rw [hri] at hr
    have ST := hide (fun w' (q : Rs w w' w.heap.size (w.heap.size + 1) 26 30 d1 d2 d3 d4 d5 d6 d7 k s) => row_ix q.d k hk)
    generalize ix [d1, d2, d3, d4, d5, d6, d7] k = x at ST ⊢
    clear he hri
    go_enter Tryz.func51, Tryz.ntmps51
    go_upto_region 1 with (fail)
    refine wp_region_sp (fun w' => Rs w w' w.heap.size (w.heap.size + 1) 26 30 d1 d2 d3 d4 d5 d6 d7 k s) (by kernel_rfl) (by kernel_rfl) st0.out ?_
    generalize hS : (fun w' => Rs w w' w.heap.size (w.heap.size + 1) 26 30 d1 d2 d3 d4 d5 d6 d7 k s) = S
    have l0 : ∀ q : Sp S, q.w.cell? ⟨w.heap.size, k, none⟩ = some (.int .i64 x) := by subst hS; exact fun q => ST.out _ q.ok
    have l1 : ∀ q : Sp S, q.w.cell? ⟨w.heap.size + 1, 0, none⟩ = some (.int .i64 k) := by subst hS; exact fun q => q.ok.i.cell 0
    have l2 : ∀ q : Sp S, q.w.cell? ⟨w.heap.size + 1, 1, none⟩ = some (.int .i64 s) := by subst hS; exact fun q => q.ok.i.cell 1
    have ne : Nonempty (Sp S) := by subst hS; exact ⟨⟨_, st0.out⟩⟩
    have STEP : Hid (∀ w w', S w → Below w.heap.size w w' → S w') := by subst hS; exact fun _ _ h hb => h.step hb
    have LOW : Hid (∀ q : Sp S, Below w.heap.size w q.w) := by subst hS; exact fun q => q.ok.low
    clear hS ST
    repeat (
      refine wpQuiet_step (fun K hK => ?_)
      go_simp
      first
        | (refine hK _ ?_; clear hK K)
        | (apply Exists.intro; refine ⟨fun _ => ?_, hK _ ?_⟩; (go_at_call 21; exact sp_call STEP.out _ (hr.out _)); clear hK K))
    refine wpQuiet_nil ?_
    intro q
    have low := LOW.out q
    generalize q.w = wq at low ⊢
    go_wp2
    go_ret
    exact ⟨rfl, low⟩
  · have hri' : rightI r s = false := by simpa using hri
    have he : reachB [d1, d2, d3, d4, d5, d6, d7] r s = false := by unfold reachB; rw [hri']; rfl
    rw [he]
    rw [hri'] at hr
    clear he hri hri'
    go_enter Tryz.func51, Tryz.ntmps51
    go_upto_region 1 with (fail)
    refine wp_region_sp (fun w' => Rs w w' w.heap.size (w.heap.size + 1) 26 30 d1 d2 d3 d4 d5 d6 d7 r s) (by kernel_rfl) (by kernel_rfl) st0.out ?_
    generalize hS : (fun w' => Rs w w' w.heap.size (w.heap.size + 1) 26 30 d1 d2 d3 d4 d5 d6 d7 r s) = S
    have l1 : ∀ q : Sp S, q.w.cell? ⟨w.heap.size + 1, 0, none⟩ = some (.int .i64 r) := by subst hS; exact fun q => q.ok.i.cell 0
    have l2 : ∀ q : Sp S, q.w.cell? ⟨w.heap.size + 1, 1, none⟩ = some (.int .i64 s) := by subst hS; exact fun q => q.ok.i.cell 1
    have ne : Nonempty (Sp S) := by subst hS; exact ⟨⟨_, st0.out⟩⟩
    have STEP : Hid (∀ w w', S w → Below w.heap.size w w' → S w') := by subst hS; exact fun _ _ h hb => h.step hb
    have LOW : Hid (∀ q : Sp S, Below w.heap.size w q.w) := by subst hS; exact fun q => q.ok.low
    clear hS
    repeat (
      refine wpQuiet_step (fun K hK => ?_)
      go_simp
      first
        | (refine hK _ ?_; clear hK K)
        | (apply Exists.intro; refine ⟨fun _ => ?_, hK _ ?_⟩; (go_at_call 21; exact sp_call STEP.out _ (hr.out _)); clear hK K))
    refine wpQuiet_nil ?_
    intro q
    have low := LOW.out q
    generalize q.w = wq at low ⊢
    go_wp2
    go_ret
    exact ⟨rfl, low⟩
end Go.Proofs.YtiaegloipnhhdaaGreat
/- The program's Gone, Cut, Cell. Conditions: the Log lies in memory; an instance's numbers are ints. -/
namespace Go.Proofs.YtiaegloipnhhdaaGreat
set_option maxRecDepth 100000
open Go.RowKit Go.Maps
theorem reach_gone (d : List Int) (r s : Int) : reachB d r s = goneL d (r, s) := rfl
set_option maxHeartbeats 4000000 in
theorem pgone_row (g b : Nat) (d : List Int) (i1 i2 : Int) (w : World) (h : Row w g 62 (pgC b d)) (h7 : d.length = 7) :
    Calls Tryz.prog 22 #[.pointer (some ⟨g, 0, none⟩), .agg #[.int .i64 i1, .int .i64 i2]] w fun e w' => e = .returned (.bool (goneL d (i1, i2))) ∧ Below w.heap.size w w' := by
  rw [← reach_gone]
  obtain ⟨d0, d1, d2, d3, d4, d5, d6, rfl⟩ := len_seven h7
  have HRE := hide (fun w => reach_any d0 d1 d2 d3 d4 d5 d6 i1 i2 w)
  obtain ⟨td, htd⟩ : ∃ t, reachB [d0, d1, d2, d3, d4, d5, d6] i1 i2 = t := ⟨_, rfl⟩
  rw [htd] at HRE ⊢
  have HB := hide (kept_alloc (kept_refl w) (.cells #[.int .i64 i1, .int .i64 i2] 30))
  have R5 := hide (Row.new w 30 #[.int .i64 i1, .int .i64 i2])
  have RG := hide (h.below HB.out h.lt)
  clear h h7 htd
  go_enter Tryz.func22, Tryz.ntmps22
  go_upto_region 1 with (fail)
  generalize w.alloc (.cells #[.int .i64 i1, .int .i64 i2] 30) = w1 at HB R5 RG ⊢
  have HB0 : Below w1.heap.size w1 w1 := kept_refl w1
  refine wp_region_sp (fun w' => Below w1.heap.size w1 w') (by kernel_rfl) (by kernel_rfl) (show Below w1.heap.size w1 w1.drew from kept_drewN HB0 1) ?_
  generalize hS : (fun w' => Below w1.heap.size w1 w') = S
  have l0 : ∀ z : Sp S, z.w.cell? ⟨w.heap.size, 0, none⟩ = some (.int .i64 i1) := by subst hS; exact fun z => (R5.out.below z.ok R5.out.lt).cell 0
  have l1 : ∀ z : Sp S, z.w.cell? ⟨w.heap.size, 1, none⟩ = some (.int .i64 i2) := by subst hS; exact fun z => (R5.out.below z.ok R5.out.lt).cell 1
  have m0 : ∀ z : Sp S, z.w.cell? ⟨g, 1, none⟩ = some (.int .i64 d0) := by subst hS; exact fun z => (RG.out.below z.ok RG.out.lt).cell 1
  have m1 : ∀ z : Sp S, z.w.cell? ⟨g, 2, none⟩ = some (.int .i64 d1) := by subst hS; exact fun z => (RG.out.below z.ok RG.out.lt).cell 2
  have m2 : ∀ z : Sp S, z.w.cell? ⟨g, 3, none⟩ = some (.int .i64 d2) := by subst hS; exact fun z => (RG.out.below z.ok RG.out.lt).cell 3
  have m3 : ∀ z : Sp S, z.w.cell? ⟨g, 4, none⟩ = some (.int .i64 d3) := by subst hS; exact fun z => (RG.out.below z.ok RG.out.lt).cell 4
  have m4 : ∀ z : Sp S, z.w.cell? ⟨g, 5, none⟩ = some (.int .i64 d4) := by subst hS; exact fun z => (RG.out.below z.ok RG.out.lt).cell 5
  have m5 : ∀ z : Sp S, z.w.cell? ⟨g, 6, none⟩ = some (.int .i64 d5) := by subst hS; exact fun z => (RG.out.below z.ok RG.out.lt).cell 6
  have m6 : ∀ z : Sp S, z.w.cell? ⟨g, 7, none⟩ = some (.int .i64 d6) := by subst hS; exact fun z => (RG.out.below z.ok RG.out.lt).cell 7
  have ne : Nonempty (Sp S) := by subst hS; exact ⟨⟨_, HB0⟩⟩
  have STEP := hide (show ∀ w w', S w → Below w.heap.size w w' → S w' by subst hS; exact fun _ _ h hb => kept_trans h hb)
  have OLD := hide (show ∀ z : Sp S, Below w1.heap.size w1 z.w by subst hS; exact fun z => z.ok)
  clear HB0 hS
  repeat (go_big_quiet_step ((first | (go_at_call 51; with_reducible exact sp_call STEP.out _ (HRE.out _)))))
  refine wpQuiet_nil ?_
  intro kk
  have OK := hide (OLD.out kk)
  generalize kk.w = wk at OK ⊢
  clear l0 l1 m0 m1 m2 m3 m4 m5 m6 ne OLD STEP
  go_wp2
  go_ret
  exact ⟨rfl, kept_trans HB.out OK.out⟩
theorem pgone_any {g b : Nat} {w : World} {x : Lw} (h : Pg w g b x) (i1 i2 : Int) :
    Calls Tryz.prog 22 #[.pointer (some ⟨g, 0, none⟩), .agg #[.int .i64 i1, .int .i64 i2]] w fun e w' => e = .returned (.bool (goneL x.d (i1, i2))) ∧ Below w.heap.size w w' := pgone_row g b x.d i1 i2 w h.row h.kl.d7
/-! ### Cell -/
section
variable {op : Oper} {a : Act} {w : World} {K : Act → World → Prop} {Q : Exit → Act → World → Prop} {b : Nat} {x u : Operand} {t : TypeId} {c y : Cl}
theorem wp_store_xw (ho : op.op = .store 38 x u) (wy : y.a.length = 8) (hx : a.eval x = .pointer (some ⟨b, 0, none⟩)) (hy : a.eval u = .agg (clC y)) (L : CeAt w b t c) (h : ∀ w', CeAt w' b t y → w.grownBy w' (some b) → K (a.put op.dst undef) w') : op.wp Tryz.prog a w K Q :=
  wp_store_c (A := []) (ys := c.l) (vs := y.l) (D := []) (y := y) ho hx hy L (by simp) (by simp) rfl (by rw [Cl.len wy, Cl.len L.l]) wy (by rw [Cl.len wy]; exact ce_info) (one_cl y) fun w' h1 h2 => h w' h1 h2
end
theorem opt_a8 {x : Lw} (h : Kl x) (i : Int × Int) : ((cellL x.k i).getD zeroCl).a.length = 8 := by
  cases hc : cellL x.k i with
  | none => rfl
  | some c => exact (h.ok ⟨i, c⟩ (cell_mem hc)).2.2.2
/-- While a cell is looked up. -/
structure Lk (W w : World) (g b : Nat) (x : Lw) (i1 i2 : Int) (bi : Nat) : Prop where
  pg : Pg w g b x
  bi : Row w bi 30 #[.int .i64 i1, .int .i64 i2]
  low : Below W.heap.size W w
theorem Lk.kept {W w w' : World} {g b : Nat} {x : Lw} {i1 i2 : Int} {bi : Nat} (h : Lk W w g b x i1 i2 bi) (hb : Below w.heap.size w w') : Lk W w' g b x i1 i2 bi := ⟨h.pg.below hb, h.bi.below hb h.bi.lt, kept_trans h.low hb⟩
theorem cA_seven_info : (Tryz.prog.info? 38).map (·.size) = some 21 := ce_info
set_option maxHeartbeats 8000000 in
theorem pcell_any {g b : Nat} {w : World} {x : Lw} (h : Pg w g b x) (i1 i2 : Int) (hi : Ok (i1, i2)) :
    Calls Tryz.prog 12 #[.pointer (some ⟨g, 0, none⟩), .agg #[.int .i64 i1, .int .i64 i2]] w fun e w' => e = .returned (cellV (cellL x.k (i1, i2))) ∧ Below w.heap.size w w' := by
  have HO := hide (show Lk w ((w.alloc (.cells #[.int .i64 i1, .int .i64 i2] 30)).alloc (.cells (clC zeroCl) 38)) g b x i1 i2 w.heap.size from ⟨(h.alloc _).alloc _, (Row.new w _ _).alloc _, kept_alloc (kept_alloc (kept_refl w) _) _⟩)
  have hx := CeAt.new (x := zeroCl) rfl (w.alloc (.cells #[.int .i64 i1, .int .i64 i2] 30)) 38
  have hs : (w.alloc (.cells #[.int .i64 i1, .int .i64 i2] 30)).heap.size = w.heap.size + 1 := by simp
  rw [hs] at hx
  have HX := hide hx
  have HLK := hide (fun (w' : World) (q : Lk w w' g b x i1 i2 w.heap.size) => q.pg.pm.look h.kl.up (i1, i2) hi)
  have h8 := opt_a8 h.kl (i1, i2)
  clear hx hs hi h
  obtain ⟨o, ho⟩ : ∃ o, cellL x.k (i1, i2) = o := ⟨_, rfl⟩
  rw [ho] at HLK h8 ⊢
  clear ho
  have HLK : Hid (∀ (w' : World) (q : Lk w w' g b x i1 i2 w.heap.size), (Instr.lookup 60 (.map (some b)) (.agg #[.int .i64 i1, .int .i64 i2]) true).run Tryz.prog w' = .ok (.tuple #[.agg (clC (o.getD zeroCl)), .bool o.isSome]) w') := HLK
  unfold cellV
  generalize o.getD zeroCl = y at HLK h8 ⊢
  generalize o.isSome = q at HLK ⊢
  go_enter Tryz.func12, Tryz.ntmps12
  go_upto_region 1 with (fail)
  rw [zero_cl]
  generalize (w.alloc (.cells #[.int .i64 i1, .int .i64 i2] 30)).alloc (.cells (clC zeroCl) 38) = w1 at HO HX ⊢
  have HNX := hide (show w.heap.size + 1 < w1.heap.size from HX.out.lt)
  have HBI := hide (show w.heap.size ≤ w.heap.size + 1 by omega)
  generalize w.heap.size + 1 = hb at HX HNX HBI ⊢
  obtain ⟨bi, hbi⟩ : ∃ bi, w.heap.size = bi := ⟨_, rfl⟩
  rw [hbi] at HO HLK ⊢
  clear hbi
  have HS0 := hide (show (fun w' : World => Lk w w' g b x i1 i2 bi ∧ Below w1.heap.size w1 w') w1 from ⟨HO.out, kept_refl w1⟩)
  have STEP := hide (show ∀ u v : World, (fun w' : World => Lk w w' g b x i1 i2 bi ∧ Below w1.heap.size w1 w') u → Below u.heap.size u v → (fun w' : World => Lk w w' g b x i1 i2 bi ∧ Below w1.heap.size w1 w') v from fun u v h hb => ⟨h.1.kept hb, kept_trans h.2 hb⟩)
  refine wp_region_noPanic ?_
  refine wp_region_U 11 (fun w' : World => Lk w w' g b x i1 i2 bi ∧ Below w1.heap.size w1 w') (by kernel_rfl) ?_
  have HD := hide (show (fun w' : World => Lk w w' g b x i1 i2 bi ∧ Below w1.heap.size w1 w') w1.drew from STEP.out _ _ HS0.out (kept_drewN (kept_refl _) 1))
  generalize w1.drew = wd at HD ⊢
  refine anyU_take2 (i := 0) (v := .pointer (some ⟨g, 0, none⟩)) (by simp only [List.getElem?_toArray, List.getElem?_cons_zero]; exact rfl) (by kernel_rfl) 12 (by kernel_rfl) (by kernel_rfl) (fun _ _ _ h => h) (by kernel_rfl) (by kernel_rfl) (by kernel_rfl) (by kernel_rfl) (Or.inl ⟨by rfl, fun w hSw => (by go_simp; try with_reducible rfl)⟩) (by with_reducible exact HD.out) ?_
  try simp only [Act.put, List.setIfInBounds_toArray, List.set_cons_zero, List.set_cons_succ]
  refine anyU_take2 (i := 1) (v := .pointer (some ⟨g, 0, none⟩)) (by simp only [List.getElem?_toArray, List.getElem?_cons_succ, List.getElem?_cons_zero]; exact rfl) (by kernel_rfl) 12 (by kernel_rfl) (by kernel_rfl) (fun _ _ _ h => h) (by kernel_rfl) (by kernel_rfl) (by kernel_rfl) (by kernel_rfl) (Or.inl ⟨by rfl, fun w hSw => (by go_simp; try with_reducible rfl)⟩) (by with_reducible exact HD.out) ?_
  try simp only [Act.put, List.setIfInBounds_toArray, List.set_cons_zero, List.set_cons_succ]
  refine anyU_take2 (i := 2) (v := .pointer (some ⟨g, 0, none⟩)) (by simp only [List.getElem?_toArray, List.getElem?_cons_succ, List.getElem?_cons_zero]; exact rfl) (by kernel_rfl) 12 (by kernel_rfl) (by kernel_rfl) (fun _ _ _ h => h) (by kernel_rfl) (by kernel_rfl) (by kernel_rfl) (by kernel_rfl) (Or.inl ⟨by rfl, fun w hSw => (by go_simp; try with_reducible rfl)⟩) (by with_reducible exact HD.out) ?_
  try simp only [Act.put, List.setIfInBounds_toArray, List.set_cons_zero, List.set_cons_succ]
  refine anyU_take2 (i := 3) (v := .map (some b)) (by simp only [List.getElem?_toArray, List.getElem?_cons_succ, List.getElem?_cons_zero]; exact rfl) (by kernel_rfl) 12 (by kernel_rfl) (by kernel_rfl) (fun _ _ _ h => h) (by kernel_rfl) (by kernel_rfl) (by kernel_rfl) (by kernel_rfl) (Or.inl ⟨by rfl, fun w hSw => (by have x0 := hSw.1.pg.known; go_simp; try with_reducible rfl)⟩) (by with_reducible exact HD.out) ?_
  try simp only [Act.put, List.setIfInBounds_toArray, List.set_cons_zero, List.set_cons_succ]
  refine anyU_take2 (i := 4) (v := .agg #[.int .i64 i1, .int .i64 i2]) (by simp only [List.getElem?_toArray, List.getElem?_cons_succ, List.getElem?_cons_zero]; exact rfl) (by kernel_rfl) 12 (by kernel_rfl) (by kernel_rfl) (fun _ _ _ h => h) (by kernel_rfl) (by kernel_rfl) (by kernel_rfl) (by kernel_rfl) (Or.inl ⟨by rfl, fun w hSw => (by have x0 := hSw.1.bi.cell 0; have x1 := hSw.1.bi.cell 1; change w.cell? ⟨bi, 0, none⟩ = some (.int .i64 i1) at x0; change w.cell? ⟨bi, 1, none⟩ = some (.int .i64 i2) at x1; go_simp; try with_reducible rfl)⟩) (by with_reducible exact HD.out) ?_
  try simp only [Act.put, List.setIfInBounds_toArray, List.set_cons_zero, List.set_cons_succ]
  refine anyU_take2 (i := 5) (v := .tuple #[.agg (clC y), .bool q]) (by simp only [List.getElem?_toArray, List.getElem?_cons_succ, List.getElem?_cons_zero]; exact rfl) (by kernel_rfl) 12 (by kernel_rfl) (by kernel_rfl) (fun _ _ _ h => h) (by kernel_rfl) (by kernel_rfl) (by kernel_rfl) (by kernel_rfl) (Or.inl ⟨by rfl, fun w hSw => (by have x0 := HLK.out _ hSw.1; go_simp; try with_reducible rfl)⟩) (by with_reducible exact HD.out) ?_
  try simp only [Act.put, List.setIfInBounds_toArray, List.set_cons_zero, List.set_cons_succ]
  refine anyU_take2 (i := 6) (v := .tuple #[.agg (clC y), .bool q]) (by simp only [List.getElem?_toArray, List.getElem?_cons_succ, List.getElem?_cons_zero]; exact rfl) (by kernel_rfl) 12 (by kernel_rfl) (by kernel_rfl) (fun _ _ _ h => h) (by kernel_rfl) (by kernel_rfl) (by kernel_rfl) (by kernel_rfl) (Or.inl ⟨by rfl, fun w hSw => (by go_simp; try with_reducible rfl)⟩) (by with_reducible exact HD.out) ?_
  try simp only [Act.put, List.setIfInBounds_toArray, List.set_cons_zero, List.set_cons_succ]
  refine anyU_take2 (i := 7) (v := .agg (clC y)) (by simp only [List.getElem?_toArray, List.getElem?_cons_succ, List.getElem?_cons_zero]; exact rfl) (by kernel_rfl) 12 (by kernel_rfl) (by kernel_rfl) (fun _ _ _ h => h) (by kernel_rfl) (by kernel_rfl) (by kernel_rfl) (by kernel_rfl) (Or.inl ⟨by rfl, fun w hSw => (by go_simp; try with_reducible rfl)⟩) (by with_reducible exact HD.out) ?_
  try simp only [Act.put, List.setIfInBounds_toArray, List.set_cons_zero, List.set_cons_succ]
  refine anyU_take2 (i := 8) (v := .bool q) (by simp only [List.getElem?_toArray, List.getElem?_cons_succ, List.getElem?_cons_zero]; exact rfl) (by kernel_rfl) 12 (by kernel_rfl) (by kernel_rfl) (fun _ _ _ h => h) (by kernel_rfl) (by kernel_rfl) (by kernel_rfl) (by kernel_rfl) (Or.inl ⟨by rfl, fun w hSw => (by go_simp; try with_reducible rfl)⟩) (by with_reducible exact HD.out) ?_
  try simp only [Act.put, List.setIfInBounds_toArray, List.set_cons_zero, List.set_cons_succ]
  have HBF := hide ((Below.refl wd.heap.size wd).alloc (Nat.le_refl _) (.cells (clC zeroCl) 38))
  have hgd := STEP.out _ _ HD.out HBF.out
  have HN := hide (CeAt.new (x := zeroCl) rfl wd 38)
  refine anyU_one (i := 9) (by kernel_rfl) (by simp only [List.getElem?_toArray, List.getElem?_cons_succ, List.getElem?_cons_zero]; exact rfl) (fun K hK => ?_)
  go_simp
  rw [zero_cl]
  refine hK.out _ _ (fun _ _ => hgd) ?_
  clear hK K hgd
  try simp only [Act.put, List.setIfInBounds_toArray, List.set_cons_zero, List.set_cons_succ]
  generalize wd.alloc (.cells (clC zeroCl) 38) = wf at HN HBF ⊢
  refine anyU_one (i := 10) (by kernel_rfl) (by simp only [List.getElem?_toArray, List.getElem?_cons_succ, List.getElem?_cons_zero]; exact rfl) (fun K hK => ?_)
  rw [if_pos (by rfl)]
  refine wp_store_xw rfl h8 rfl rfl HN.out ?_
  intro wg hce hgr
  have hbl := below_own HBF.out hgr (Nat.le_refl _)
  have HG := hide (STEP.out _ _ HD.out hbl)
  refine hK.out _ _ (fun _ _ => HG.out) ?_
  clear hK K
  try simp only [Act.put]
  replace HN := hide hce
  clear hce hgr hbl HBF HD
  generalize wd.heap.size = bd at HN ⊢
  refine anyU_one (i := 11) (by kernel_rfl) (by simp only [List.getElem?_toArray, List.getElem?_cons_succ, List.getElem?_cons_zero]; exact rfl) (fun K hK => ?_)
  try go_simp
  refine hK.out _ _ (fun e _ => absurd rfl e) ?_
  clear hK K
  try simp only [Act.put]
  refine anyU_done (by kernel_rfl) ?_
  refine NoPanic.normal ?_
  try simp only [Act.put]
  replace HX := hide (HX.out.kept HG.out.2)
  have HB := hide HG.out.1.low
  clear HG HS0 STEP HO HLK
  go_wp2_with (first
    | ((with_reducible refine wpList_load_ce h8 ?_ ?_ HN.out.all ?_); rfl; rfl)
    | ((with_reducible refine wpList_store_xw h8 ?_ ?_ HX.out ?_); rfl; rfl; intro w3 hx hg; have HX := hide hx; have HB := hide (below_own HB.out hg HBI.out); clear hx hg))
  exact bodyPost_ret (results_cb Tryz.results12 rfl HX.out rfl) rfl ⟨rfl, HB.out⟩
end Go.Proofs.YtiaegloipnhhdaaGreat
