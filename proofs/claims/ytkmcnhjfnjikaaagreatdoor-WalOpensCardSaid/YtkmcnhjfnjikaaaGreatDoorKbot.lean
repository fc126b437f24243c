/- Names of the document's disk. Conditions: the slice has room. -/
import Derived.Test.YtkmcnhjfnjikaaaGreatDoorKrfb
import Derived.Test.YtkmcnhjfnjikaaaGreatDoorKtwi
import Derived.Laws.AppendOwn
import Derived.Test.YtkmcnhjfnjikaaaGreatDoorKrfd
namespace Go.Proofs.YtkmcnhjfnjikaaaGreatDoor
open Go.RowKit Go.Maps
set_option maxRecDepth 100000 in
theorem Tryz.infoText : (Tryz.prog.info? 9).map (fun i => (i.zero, i.size, i.bytes)) = some (some (.string ⟨#[]⟩), 1, 16) := by kernel_rfl
/-- The names of the first k files, in a slice of the call's own. -/
structure Nm (w wr : World) (l : List Fl) (k : Nat) (v : Value) : Prop where
  low : Below w.heap.size w wr
  own : wr.ownsRow w.heap.size 9 1 v k (((nms l).take k).map Value.string)
theorem text_new (w : World) (t : TypeId) (x : ByteArray) : ∀ j u, [Value.string x][j]? = some u → (w.alloc (.cells #[.string x] t)).cell? ((⟨w.heap.size, 0, none⟩ : Addr).add j) = some u := fun j u hj => by
  rcases j with _ | j
  · have e : u = .string x := by simpa using hj.symm
    subst e
    exact (Row.new w t #[.string x]).cell 0
  · simp at hj
theorem nms_succ {l : List Fl} {k : Nat} {f : Fl} (h : l[k]? = some f) : ((nms l).take (k + 1)).map Value.string = ((nms l).take k).map Value.string ++ [.string f.nm] := by
  have hk : k < (nms l).length := by rw [length_nms]; exact (List.getElem?_eq_some_iff.1 h).1
  have e : (nms l)[k] = f.nm := by
    have : (nms l)[k]? = some f.nm := by unfold nms; rw [List.getElem?_map, h]; rfl
    rw [List.getElem?_eq_getElem hk] at this; exact Option.some.inj this
  rw [List.take_succ_eq_append_getElem hk, e, List.map_append]; rfl
section
variable {S : Nat → Prop} {w : World} {g : Nat} {R : List (Fl × Ps)} {A : Option Addr} {c : Nat} {d : DS}
set_option maxRecDepth 100000 in
set_option maxHeartbeats 1000000 in
theorem rnames_any (h : Rp S w g R A c d) (hln : d.l.length ≤ 1000000) :
    Calls Tryz.prog 48 #[.pointer (some ⟨g, 0, none⟩)] w fun e w' => ∃ A' c', e = .returned (.slice A' d.l.length c') ∧ Strs w' A' (nms d.l) ∧ Below w.heap.size w w' := by
  obtain ⟨i0, hi, hz0, hz1, hz2⟩ := info_parts Tryz.infoText
  have C0 := hide h.c0
  have HG := hide h.row.lt
  have HAT := hide (show ∀ k f, d.l[k]? = some f → ∃ b off, A = some ⟨b, off, none⟩ ∧ b < w.heap.size ∧ w.cell? ⟨b, off + k * 3, none⟩ = some (.string f.nm) from fun k f hk => by
    obtain ⟨b, off, s, rfl, hs, hkl, n0, _⟩ := h.at_ hk
    exact ⟨b, off, rfl, h.lt _ (h.sA _ rfl), n0⟩)
  clear h
  go_enter Tryz.func48, Tryz.ntmps48
  go_wp2
  go_loopw [3, 4] (fun v i wr => ∃ k : Nat, k ≤ d.l.length ∧ i = .int .i64 k ∧ Hid (Nm w wr d.l k v)) (fun _ i _ => d.l.length - (intOf i).toNat)
  case atStart => exact ⟨0, by omega, rfl, Below.refl _ _, ⟨rfl, .inl ⟨rfl, rfl⟩⟩⟩
  case round =>
    obtain ⟨k, hk, rfl, J⟩ := hrel
    have c0 : wr.cell? ⟨g, 0, none⟩ = some (.slice A d.l.length c) := (J.out.low.cell (p := ⟨g, 0, none⟩) HG.out).trans C0.out
    obtain ⟨A1, c1, rfl, _⟩ := own_shape J.out.own
    by_cases hlt : k < d.l.length
    · obtain ⟨b, off, rfl, hb, n0'⟩ := HAT.out k d.l[k] (List.getElem?_eq_getElem hlt)
      have n0 := (J.out.low.cell (p := ⟨b, off + k * 3, none⟩) hb).trans n0'
      have HS := hide (nms_succ (List.getElem?_eq_getElem hlt))
      generalize d.l[k] = f at *
      clear n0'
      have own0 := J.out.own
      have hsz := J.out.low.size
      go_wp2_with (at_builtin; refine wpList_append_own _ rfl _ _ 57 rfl w.heap.size 9 i0 (.string ⟨#[]⟩) 1 16 Tryz.underlying57 hi hz0 hz1 hz2 rfl (by decide) _ _ _ rfl (own0.alloc _) ⟨wr.heap.size, 0, none⟩ 1 1 [.string f.nm] rfl rfl (text_new _ _ _) (by simp [Value.oneCell']) (by unfold maxLen; omega) (by omega) (Nat.le_trans hsz (alloc_le _ _)) ?_; intro v' w1 hown' hgrow _)
      have KN := hide (show Nm w w1 d.l (k + 1) v' from ⟨(J.out.low.alloc hsz _).grown hgrow (Nat.le_trans hsz (alloc_le _ _)) (fun q hq => (own0.lt q hq).1), by rw [HS.out]; exact hown'⟩)
      clear hown' hgrow own0 J
      go_wp2
      go_roundw
      case rel => exact ⟨k + 1, by omega, by go_num, KN⟩
      case measure => simp [intOf]; omega
    · obtain rfl : k = d.l.length := by omega
      have HF := hide (show Strs wr A1 (nms d.l) ∧ Below w.heap.size w wr from ⟨Strs.of_own (by have := J.out.own; rw [List.take_of_length_le (by rw [length_nms]; omega)] at this; exact this), J.out.low⟩)
      clear J
      go_wp2
      go_ret
      exact ⟨A1, c1, rfl, HF.out⟩
end
end Go.Proofs.YtkmcnhjfnjikaaaGreatDoor
/- The program's disk and the document's, told the same. Conditions as the calls' own. -/
namespace Go.Proofs.YtkmcnhjfnjikaaaGreatDoor
open Go.RowKit Go.Maps
/-- The program's disk d1 at p, the document's d2 at r, apart from each other and from X. -/
def Bo (X : Nat → Prop) (w : World) (p : Nat) (d1 : DS) (r : Nat) (d2 : DS) : Prop := ∃ T, Rk T w r d2 ∧ (∀ k, T k → ¬ X k) ∧ Dq (fun k => X k ∨ T k) w p d1
section
variable {X Y : Nat → Prop} {w w' : World} {p r : Nat} {d1 d2 d1' d2' : DS}
theorem Bo.one (h : Bo X w p d1 r d2) : Dq X w p d1 := by
  obtain ⟨T, _, _, h⟩ := h
  exact h.less fun _ hk => .inl hk
theorem Bo.below (h : Bo X w p d1 r d2) (hb : Below w.heap.size w w') : Bo X w' p d1 r d2 := by
  obtain ⟨T, h2, hx, h1⟩ := h
  exact ⟨T, h2.below hb, hx, h1.below hb⟩
theorem Bo.less (h : Bo X w p d1 r d2) (hs : ∀ k, Y k → X k) : Bo Y w p d1 r d2 := by
  obtain ⟨T, h2, hx, h1⟩ := h
  exact ⟨T, h2, fun k hk y => hx k hk (hs k y), h1.less fun k hk => hk.imp (hs k) id⟩
theorem Bo.more (h : Bo X w p d1 r d2) (hb : Below w.heap.size w w') (hY : ∀ k, Y k → X k ∨ (w.heap.size ≤ k ∧ k < w'.heap.size)) : Bo Y w' p d1 r d2 := by
  obtain ⟨T, h2, hx, h1⟩ := h
  refine ⟨T, h2.below hb, fun k hk y => ?_, h1.more hb fun k hk => ?_⟩
  · rcases hY k y with z | z
    · exact hx k hk z
    · have := h2.lt k hk; omega
  · rcases hk with y | s
    · exact (hY k y).imp .inl id
    · exact .inl (.inr s)
theorem Bo.opP {f : FuncId} {args : Array Value} {P : Ending → Prop} (h : Bo X w p d1 r d2) (hc : ∀ Y, Dq Y w p d1 → (∀ k, X k → Y k) → Calls Tryz.prog f args w fun e w' => P e ∧ Dq Y w' p d1' ∧ Kx Y w w') :
    Calls Tryz.prog f args w fun e w' => P e ∧ Bo X w' p d1' r d2 ∧ Kx X w w' := by
  obtain ⟨T, h2, hx, h1⟩ := h
  refine (hc _ h1 fun _ hk => .inl hk).mono fun e w' ⟨he, hq, hk⟩ => ⟨he, ⟨T, h2.kept hk.size fun k hk2 => hk.same (.inr hk2) (h2.lt k hk2), hx, hq⟩, hk.mono fun _ x => .inl x⟩
theorem Bo.opR {f : FuncId} {args : Array Value} {P : Ending → Prop} (h : Bo X w p d1 r d2) (hc : ∀ T, Rk T w r d2 → (∀ k, T k → ¬ X k) → Calls Tryz.prog f args w fun e w' => P e ∧ ∃ T', Rk T' w' r d2' ∧ Own T w T' w') :
    Calls Tryz.prog f args w fun e w' => P e ∧ Bo X w' p d1 r d2' ∧ Kx X w w' := by
  obtain ⟨T, h2, hx, S, h1, hsx, hl⟩ := h
  refine (hc _ h2 hx).mono fun e w' ⟨he, T', h3, ho⟩ => ⟨he, ⟨T', h3, fun k hk x => ?_, S, h1.kept ho.turn.size (fun k hk => ho.turn.block k (h1.lt k hk) fun z => hsx k hk (.inr z)), fun k hk y => ?_, fun k hk => ?_⟩, ho.turn.mono hx⟩
  · rcases ho.new k hk with z | z
    · exact hx k z x
    · have := hl k (.inl x); omega
  · rcases y with x | t
    · exact hsx k hk (.inl x)
    · rcases ho.new k t with z | z
      · exact hsx k hk (.inr z)
      · have := h1.lt k hk; omega
  · rcases hk with x | t
    · exact Nat.lt_of_lt_of_le (hl k (.inl x)) ho.turn.size
    · exact h3.lt k t
end
/-- What the law holds on to. -/
structure Lb (W : World) (X : Nat → Prop) (w : World) (p : Nat) (d1 : DS) (r : Nat) (d2 : DS) : Prop where
  low : Below W.heap.size W w
  bo : Bo X w p d1 r d2
  xs : ∀ k, k < W.heap.size → X k
section
variable {W w w' : World} {X Y : Nat → Prop} {p r : Nat} {d1 d2 d1' d2' d : DS} {nm tn : ByteArray}
theorem Lb.below (h : Lb W X w p d1 r d2) (hb : Below w.heap.size w w') : Lb W X w' p d1 r d2 := ⟨kept_trans h.low hb, h.bo.below hb, h.xs⟩
theorem Lb.one (h : Lb W X w p d1 r d2) : Lw W X w p d1 := ⟨h.low, h.bo.one, h.xs⟩
theorem Lb.drop (h : Lb W X w p d1 r d2) (hY : ∀ k, Y k → X k) (hW : ∀ k, k < W.heap.size → Y k) : Lb W Y w p d1 r d2 := ⟨h.low, h.bo.less hY, hW⟩
theorem Lb.opP {f : FuncId} {args : Array Value} {P : Ending → Prop} (h : Lb W X w p d1 r d2) (hc : ∀ Y, Dq Y w p d1 → (∀ k, X k → Y k) → Calls Tryz.prog f args w fun e w' => P e ∧ Dq Y w' p d1' ∧ Kx Y w w') :
    Calls Tryz.prog f args w fun e w' => P e ∧ Lb W X w' p d1' r d2 ∧ Kx X w w' :=
  (h.bo.opP hc).mono fun _ _ ⟨he, ht, hk⟩ => ⟨he, ⟨h.low.trans (hk.below h.low.size h.xs), ht, h.xs⟩, hk⟩
theorem Lb.opR {f : FuncId} {args : Array Value} {P : Ending → Prop} (h : Lb W X w p d1 r d2) (hc : ∀ T, Rk T w r d2 → (∀ k, T k → ¬ X k) → Calls Tryz.prog f args w fun e w' => P e ∧ ∃ T', Rk T' w' r d2' ∧ Own T w T' w') :
    Calls Tryz.prog f args w fun e w' => P e ∧ Lb W X w' p d1 r d2' ∧ Kx X w w' :=
  (h.bo.opR hc).mono fun _ _ ⟨he, ht, hk⟩ => ⟨he, ⟨h.low.trans (hk.below h.low.size h.xs), ht, h.xs⟩, hk⟩
/-- What the document's disk tells. -/
theorem Lb.ref (h : Lb W X w p d1 r d2) : ∃ T R A c, DOk d2 ∧ Rp T w r R A c d2 := by
  obtain ⟨T, ⟨ho, R, A, c, hR⟩, _⟩ := h.bo
  exact ⟨T, R, A, c, ho, hR⟩
end
section
variable {W w w' : World} {p r gb : Nat} {d1 d2 d1' d2' : DS} {x : As} {nm tn : ByteArray}
/-- Where a slice that came in lies. -/
theorem came_out {X T : Nat → Prop} {A : Option Addr} {n c : Nat} {zs : List Int} (hs : SliceIn W A n c zs) (hX : ∀ k, k < W.heap.size → X k) (hT : ∀ k, T k → ¬ X k) : Out T A zs := fun hn a ha hk => by
  obtain ⟨b, off, e, hlt, _⟩ := hs.lies hn
  rw [e] at ha; injection ha with ha; subst ha; exact hT _ hk (hX _ hlt)
theorem came_outI {X T : Nat → Prop} {A : Option Addr} {n c : Nat} {zs : List Int} (hs : IntsIn W A n c zs) (hX : ∀ k, k < W.heap.size → X k) (hT : ∀ k, T k → ¬ X k) : Out T A zs := fun hn a ha hk => by
  obtain ⟨b, off, e, hlt, _⟩ := hs.lies hn
  rw [e] at ha; injection ha with ha; subst ha; exact hT _ hk (hX _ hlt)
end
/-- What a call makes of a disk. -/
def askS (d : DS) (x : As) : DS :=
  if x.k = 1 then appS d x.nm x.d.zs else if x.k = 2 then synS d x.nm else if x.k = 3 then cutS d x.nm x.n else if x.k = 4 then renS d x.nm x.tn else if x.k = 5 then remS d x.nm else if x.k = 6 then armS d x.n else if x.k = 7 then craS d x.p.zs else d
theorem len_ask (d : DS) (x : As) : (askS d x).l.length ≤ d.l.length + 1 := by
  unfold askS
  split
  · exact len_app ..
  · split
    · exact len_syn ..
    · split
      · exact len_cut ..
      · split
        · exact len_ren ..
        · split
          · exact len_rem ..
          · split
            · exact Nat.le_succ _
            · split
              · rw [cra_len]; exact Nat.le_succ _
              · exact Nat.le_succ _
end Go.Proofs.YtkmcnhjfnjikaaaGreatDoor
