/- What StateOnce holds along its loop: a state behind a pointer, which numbers acted, what they were told. No condition: no walk. -/
import Derived.Test.YtahfpncfkcfogaaGo
import Derived.Test.YtahfpncfkcfogaaGq
import Derived.Test.YtahfpncfkcfogaaGk
import Derived.Test.YtahfpncfkcfogaaTm
import Derived.Test.YtahfpncfkcfogaaGt
namespace Go.Proofs.Ytahfpncfkcfogaa
set_option maxRecDepth 100000
open Go.RowKit
def dV (D : List (Int × Int)) : List (List Value) := D.map fun p => [.int .i64 p.1, .int .i64 p.2]
theorem dV_len (D : List (Int × Int)) : (dV D).length = D.length := List.length_map _
theorem dV_all (D : List (Int × Int)) : AllV 2 (dV D) := fun x hx => by
  unfold dV at hx
  obtain ⟨p, _, rfl⟩ := List.mem_map.1 hx
  exact ⟨rfl, fun u hu => by
    simp at hu
    rcases hu with rfl | rfl <;> rfl⟩
theorem dV_at {D : List (Int × Int)} {k : Nat} {p : Int × Int} (h : D[k]? = some p) : (dV D)[k]? = some [.int .i64 p.1, .int .i64 p.2] := by unfold dV; rw [List.getElem?_map, h]; rfl
theorem dV_app (D E : List (Int × Int)) : dV (D ++ E) = dV D ++ dV E := List.map_append
theorem inst_parts : ∃ i, Try.prog.info? 56 = some i ∧ i.zero = some (.agg #[.int .i64 0, .int .i64 0]) ∧ i.size = 2 ∧ i.bytes = 16 :=
  info_parts (show (Try.prog.info? 56).map (fun i => (i.zero, i.size, i.bytes)) = some (some (.agg #[.int .i64 0, .int .i64 0]), 2, 16) by kernel_rfl)
theorem under_insts : Try.prog.underlying 53 = some (.slice 56) := by kernel_rfl
theorem dV_cells {w : World} {A : Option Addr} {D : List (Int × Int)} {j : Nat} {p : Int × Int} (h : Els 2 w A (dV D)) (hj : D[j]? = some p) : ∃ b off, A = some ⟨b, off, none⟩ ∧ w.cell? ⟨b, off + j * 2, none⟩ = some (.int .i64 p.1) ∧ w.cell? ⟨b, off + j * 2 + 1, none⟩ = some (.int .i64 p.2) := by
  obtain ⟨b, off, e, hb, hc⟩ := Els.at_ h (dV_at hj)
  exact ⟨b, off, e, hc 0 (by omega), hc 1 (by omega)⟩
theorem eql_inst (a b c d : Int) (w : World) : (binOp .eql 56 (.agg #[.int .i64 a, .int .i64 b]) (.agg #[.int .i64 c, .int .i64 d])).run Try.prog w = .ok (.bool (a == c && b == d)) w := by
  have u3 := Try.underlying3
  have a3 := Try.isAgg3
  have z3 := Try.sizeOf3
  have hS : Try.prog.underlying 56 = some (.struct (Try.prog.fieldsOf 56)) := by kernel_rfl
  have hp : Try.prog.stoodInHeld 56 = false := by kernel_rfl
  rw [run_eql_struct, show (10000 : Nat) = 9999 + 1 from rfl, run_equalIn_agg w 9999 56 _ _ hS hp]
  simp only [Program.fieldsOf, Try.underlying56]
  go_simp
  cases h1 : (a == c) <;> simp_all
  cases h2 : (b == d) <;> simp_all
theorem Row.two {w : World} {g : Nat} {t : TypeId} {x y : Value} (h : Row w g t #[x, y]) : w.cell? ⟨g, 0, none⟩ = some x ∧ w.cell? ⟨g, 1, none⟩ = some y :=
  ⟨by rw [h.cell]; rfl, by rw [h.cell]; rfl⟩
/-- append of one instance onto an own row, as a step of a drawn region. -/
theorem step_append_inst {ops : Array Oper} {o : Oper} {a : Act} {K : Act → World → Prop} {Q : Exit → Act → World → Prop} {E : Prop} {w : World} (hgd : o.guard = none) (s x : Operand)
    (ho : o.op = .call { callee := .builtin .append, args := #[s, x], argTypes := #[53, 53] })
    {b g : Nat} {v : Value} {D : List (Int × Int)} {c q : Int} {t : TypeId} (hs : a.eval s = v) (h : w.ownsRow b 56 2 v D.length (cellsV (dV D))) (hx : a.eval x = .slice (some ⟨g, 0, none⟩) 1 1) (hr : Row w g t #[.int .i64 c, .int .i64 q]) (hb : D.length ≤ 100000) (hbase : b ≤ w.heap.size)
    (hk : ∀ v' w', w'.ownsRow b 56 2 v' (D.length + 1) (cellsV (dV D ++ dV [(c, q)])) → w.grownBy w' v.ownBlock → K (a.put o.dst v') w') : if Region.wanted o (yielded ops a.tmps) = true then Oper.wp Try.prog o a w K Q else E := by
  obtain ⟨i0, hi, hz0, hz1, hz2⟩ := inst_parts
  exact step_append_els hgd s x 53 ho b 56 i0 _ 16 under_insts hi hz0 hz1 hz2 (by omega) rfl v D.length (dV D) hs h (some ⟨g, 0, none⟩) 1 1 (dV [(c, q)]) hx (dV_all _) rfl (fun e => by cases e) (els_row hr (dV_all [(c, q)]) rfl) (by omega) (by omega) hbase hk
/-- .. of one reply. -/
theorem step_append_rep {ops : Array Oper} {o : Oper} {a : Act} {K : Act → World → Prop} {Q : Exit → Act → World → Prop} {E : Prop} {w : World} (hgd : o.guard = none) (s x : Operand)
    (ho : o.op = .call { callee := .builtin .append, args := #[s, x], argTypes := #[31, 31] })
    {b g : Nat} {v : Value} {T : List (List Value)} {r : Re} {A : Option Addr} {c n : Nat} {t : TypeId} (hs : a.eval s = v) (h : w.ownsRow b 25 5 v T.length (cellsV T)) (hx : a.eval x = .slice (some ⟨g, 0, none⟩) 1 1) (hr : Row w g t #[.int .i64 r.why, .bool r.fnd, .string r.val, .int .i64 r.ver, .slice A n c]) (hb : T.length ≤ 100000) (hbase : b ≤ w.heap.size)
    (hk : ∀ v' w', w'.ownsRow b 25 5 v' (T.length + 1) (cellsV (T ++ [[.int .i64 r.why, .bool r.fnd, .string r.val, .int .i64 r.ver, .slice A n c]])) → w.grownBy w' v.ownBlock → K (a.put o.dst v') w') : if Region.wanted o (yielded ops a.tmps) = true then Oper.wp Try.prog o a w K Q else E := by
  obtain ⟨i0, hi, hz0, hz1, hz2⟩ := reply_parts
  have ha : AllV 5 [[Value.int .i64 r.why, .bool r.fnd, .string r.val, .int .i64 r.ver, .slice A n c]] := fun x hx => by
    obtain rfl := List.mem_singleton.1 hx
    exact ⟨rfl, fun u hu => by
      simp at hu
      rcases hu with rfl | rfl | rfl | rfl | rfl <;> rfl⟩
  exact step_append_els hgd s x 31 ho b 25 i0 _ 64 under_replies hi hz0 hz1 hz2 (by omega) rfl v T.length T hs h (some ⟨g, 0, none⟩) 1 1 _ hx ha rfl (fun e => by cases e) (els_row hr ha rfl) (by omega) (by omega) hbase hk
/-- A state stays while a row of other things grows. -/
theorem NewS.unlikeT {b n sz : Nat} {e : TypeId} {w w' : World} {p v : Value} {M : List Co} {s : Sm} {xs : List Value} (h : NewS b w p M s) (hr : w.ownsRow b e sz v n xs) (he : 47 ≠ e) (hg : w.grownBy w' v.ownBlock) : NewS b w' p M s :=
  have key : ∀ {u : Value} {l : List Pr}, Mine b w u l → Mine b w' u l := fun {u l} hz => by
    unfold Mine at hz ⊢
    exact hz.kept hg (own_unlike he hz hr)
  ⟨key h.pin, h.room, h.eight, fun x hx => ⟨key (h.own x hx).1, (h.own x hx).2⟩, h.is⟩
theorem Mine.unlikeT {b n sz : Nat} {e : TypeId} {w w' : World} {u v : Value} {l : List Pr} {xs : List Value} (h : Mine b w u l) (hr : w.ownsRow b e sz v n xs) (he : 47 ≠ e) (hg : w.grownBy w' v.ownBlock) : Mine b w' u l := by
  unfold Mine at h ⊢
  exact h.kept hg (own_unlike he h hr)
theorem own_below {b n sz : Nat} {e : TypeId} {w w' : World} {v : Value} {xs : List Value} (h : w.ownsRow b e sz v n xs) (hb : Below w.heap.size w w') : w'.ownsRow b e sz v n xs := h.kept (grown_below hb) (by cases v.ownBlock <;> simp)
theorem own_low {b g n sz : Nat} {e : TypeId} {w : World} {v : Value} {xs : List Value} {cs : Array Value} (h : w.ownsRow b e sz v n xs) (hg : g < b) : (w.setRow g cs).ownsRow b e sz v n xs := h.kept (setRow_grown w g cs) (by
  cases hv : v.ownBlock with
  | none => exact .inl rfl
  | some k => exact .inr (fun e => by
      have := (World.ownsRow.lt h k hv).1
      injection e with e
      omega))
theorem same_yes {p q : Value} {L M : List Co} {s t : Sm} {w : World} (h : IsS w p L s) (k : IsS w q M t) (e : s = t) : Calls Try.prog 19 #[.agg (stc p L), .agg (stc q M)] w fun e w' => e = .returned (.bool true) ∧ Below w.heap.size w w' := by
  have h1 := ssame_any p q L M s t w h k
  rw [(eqS_iff s t).2 e] at h1
  exact h1
theorem sright_yes {p : Value} {L : List Co} {s : Sm} {w : World} (h : IsS w p L s) (e : rightSB s = true) : Calls Try.prog 20 #[.agg (stc p L)] w fun e w' => e = .returned (.bool true) ∧ Below w.heap.size w w' := by
  have h1 := sright_any p L s w h
  rw [e] at h1
  exact h1
theorem right_is {x : Cm} {b : Bool} (e : rightC x = b) (w : World) : Calls Try.prog 27 #[.agg #[.int .i64 x.k, .int .i64 x.c, .int .i64 x.q, .string x.key, .string x.en, .string x.old, .string x.val]] w fun e w' => e = .returned (.bool b) ∧ Below w.heap.size w w' := by
  subst e
  obtain ⟨k, c, q, key, en, old, val⟩ := x
  exact c_right_any k c q key en old val w
theorem replies_yes {a b : Re} {p q : Value} {w : World} (e : a = b) (ha : Pin w p a.l) (hb : Pin w q b.l) (la : a.l.length ≤ 3518437208780) (lb : b.l.length ≤ 3518437208780) :
    Calls Try.prog 13 #[.agg #[.int .i64 a.why, .bool a.fnd, .string a.val, .int .i64 a.ver, p], .agg #[.int .i64 b.why, .bool b.fnd, .string b.val, .int .i64 b.ver, q]] w fun e w' => e = .returned (.bool true) ∧ Below w.heap.size w w' := by
  have h1 := replies_any a b p q w ha hb (by omega) (by omega)
  rw [decide_eq_true e] at h1
  exact h1
theorem again_says {x : Cm} {r s : Re} (h : rightC x = true → sameC x c_zeroC = false → r.why ≠ 9 → s = r) (h1 : rightC x = true) (h2 : (x.k != 0) = true) (h3 : (r.why != 9) = true) : s = r :=
  h h1 (by
    cases hz : sameC x c_zeroC
    · rfl
    · rw [sameC_iff] at hz
      rw [hz] at h2
      cases h2) (by simpa using h3)
/-- At the head of a round. -/
structure Oq (W w : World) (g : Nat) (s : Sm) (p : Value) (M : List Co) (D : List (Int × Int)) (T : List (List Value)) (vd vt : Value) : Prop where
  row : Row w g 30 (stc p M)
  st : NewS (g + 1) w p M s
  dn : w.ownsRow (g + 1) 56 2 vd D.length (cellsV (dV D))
  tl : w.ownsRow (g + 1) 25 5 vt T.length (cellsV T)
  len : T.length = D.length
  bel : Below W.heap.size W w
  hg : W.heap.size ≤ g
theorem Oq.below {W w w' : World} {g : Nat} {s : Sm} {p : Value} {M : List Co} {D : List (Int × Int)} {T : List (List Value)} {vd vt : Value} (h : Oq W w g s p M D T vd vt) (hb : Below w.heap.size w w') : Oq W w' g s p M D T vd vt :=
  ⟨h.row.below hb h.row.lt, h.st.below hb, own_below h.dn hb, own_below h.tl hb, h.len, h.bel.trans (hb.mono h.bel.size), h.hg⟩
theorem Oq.lt {W w : World} {g : Nat} {s : Sm} {p : Value} {M : List Co} {D : List (Int × Int)} {T : List (List Value)} {vd vt : Value} (h : Oq W w g s p M D T vd vt) : (∀ k, vd.ownBlock = some k → k < w.heap.size) ∧ ∀ k, vt.ownBlock = some k → k < w.heap.size :=
  ⟨fun k e => (World.ownsRow.lt h.dn k e).2, fun k e => (World.ownsRow.lt h.tl k e).2⟩
/-- .. behind the first Apply. -/
structure Om (W w : World) (g g7 g8 : Nat) (x : Cm) (s s' : Sm) (r : Re) (p : Value) (M : List Co) (p' : Value) (M' : List Co) (q : Value) (D : List (Int × Int)) (T : List (List Value)) (vd vt : Value) : Prop where
  row : Row w g 30 (stc p M)
  rc : Row w g7 35 (rowC x)
  r8 : Row w g8 30 (stc p' M')
  r9 : Row w (g8 + 1) 25 (reV r q)
  ns : NewS (g + 1) w p M s
  st : NewS (g + 1) w p' M' s'
  hq : Mine (g + 1) w q r.l
  ln : r.l.length ≤ 3518437208780
  dn : w.ownsRow (g + 1) 56 2 vd D.length (cellsV (dV D))
  tl : w.ownsRow (g + 1) 25 5 vt T.length (cellsV T)
  bel : Below W.heap.size W w
  hg : W.heap.size ≤ g
  l7 : g < g7
  l8 : g7 < g8
section
variable {W w w' : World} {g g7 g8 : Nat} {x : Cm} {s s' : Sm} {r : Re} {p p' q vd vt v' : Value} {M M' : List Co} {D : List (Int × Int)} {T : List (List Value)} {e : Int × Int} {y : List Value}
theorem Om.below (h : Om W w g g7 g8 x s s' r p M p' M' q D T vd vt) (hb : Below w.heap.size w w') : Om W w' g g7 g8 x s s' r p M p' M' q D T vd vt :=
  ⟨h.row.below hb h.row.lt, h.rc.below hb h.rc.lt, h.r8.below hb h.r8.lt, h.r9.below hb h.r9.lt, h.ns.below hb, h.st.below hb, h.hq.below hb, h.ln, own_below h.dn hb, own_below h.tl hb, h.bel.trans (hb.mono h.bel.size), h.hg, h.l7, h.l8⟩
theorem Om.appD (h : Om W w g g7 g8 x s s' r p M p' M' q D T vd vt) (hlt : ∀ k, vd.ownBlock = some k → k < g7) (hg : w.grownBy w' vd.ownBlock) (ho : w'.ownsRow (g + 1) 56 2 v' (D.length + 1) (cellsV (dV D ++ dV [e]))) : Om W w' g g7 g8 x s s' r p M p' M' q (D ++ [e]) T v' vt := by
  have l7 := h.l7
  have l8 := h.l8
  have lo : ∀ k, vd.ownBlock = some k → g < k := fun k e => (World.ownsRow.lt h.dn k e).1
  exact ⟨h.row.grown hg (fun e => by have := lo _ e.symm; omega), h.rc.grown hg (fun e => by have := hlt _ e.symm; omega), h.r8.grown hg (fun e => by have := hlt _ e.symm; omega), h.r9.grown hg (fun e => by have := hlt _ e.symm; omega), h.ns.unlikeT h.dn (by decide) hg, h.st.unlikeT h.dn (by decide) hg, h.hq.unlikeT h.dn (by decide) hg, h.ln,
    by rw [List.length_append, dV_app]; exact ho, h.tl.kept hg (own_unlike (by decide) h.tl h.dn), h.bel.grown hg h.bel.size (fun k e => by have := lo k e; have := h.hg; omega), h.hg, l7, l8⟩
theorem Om.appT (h : Om W w g g7 g8 x s s' r p M p' M' q D T vd vt) (hlt : ∀ k, vt.ownBlock = some k → k < g7) (hg : w.grownBy w' vt.ownBlock) (ho : w'.ownsRow (g + 1) 25 5 v' (T.length + 1) (cellsV (T ++ [y]))) : Om W w' g g7 g8 x s s' r p M p' M' q D (T ++ [y]) vd v' := by
  have l7 := h.l7
  have l8 := h.l8
  have lo : ∀ k, vt.ownBlock = some k → g < k := fun k e => (World.ownsRow.lt h.tl k e).1
  exact ⟨h.row.grown hg (fun e => by have := lo _ e.symm; omega), h.rc.grown hg (fun e => by have := hlt _ e.symm; omega), h.r8.grown hg (fun e => by have := hlt _ e.symm; omega), h.r9.grown hg (fun e => by have := hlt _ e.symm; omega), h.ns.unlikeT h.tl (by decide) hg, h.st.unlikeT h.tl (by decide) hg, h.hq.unlikeT h.tl (by decide) hg, h.ln,
    h.dn.kept hg (own_unlike (by decide) h.dn h.tl), by rw [List.length_append]; exact ho, h.bel.grown hg h.bel.size (fun k e => by have := lo k e; have := h.hg; omega), h.hg, l7, l8⟩
theorem Oq.om (h : Oq W w g s p M D T vd vt) {w5 w6 : World} {b : Nat} (rc : Row w5 g7 35 (rowC x)) (hb : Below w.heap.size w w5) (h7 : w.heap.size ≤ g7) (hb5 : b = w5.heap.size) (hn : NewS b w6 p' M' s') (hq : Mine b w6 q r.l) (ln : r.l.length ≤ 3518437208780) (hb6 : Below w5.heap.size w5 w6) :
    Om W (paW w6 p' M' r q) g g7 w6.heap.size x s s' r p M p' M' q D T vd vt := by
  subst hb5
  have z := pa_1 w6 p' M' r q
  have h5 := h.below hb
  have k7 := kept_trans hb6 z.2.2
  have g1 := h.row.lt
  have g2 := hb.size
  have g3 := hb6.size
  have g4 := rc.lt
  exact ⟨h5.row.below k7 h5.row.lt, rc.below k7 rc.lt, z.1, z.2.1, h5.st.below k7, (hn.below z.2.2).mono (by omega), (hq.below z.2.2).mono (by omega), ln, own_below h5.dn k7, own_below h5.tl k7, h5.bel.trans (k7.mono h5.bel.size), h.hg, by omega, by omega⟩
theorem Om.next (h : Om W w g g7 g8 x s s' r p M p' M' q D T vd vt) (hl : T.length = D.length) : Oq W (w.setRow g (stc p' M')) g s' p' M' D T vd vt :=
  have hg := h.hg
  ⟨h.row.setRow _, h.st.setRow (by omega) _, own_low h.dn (by omega), own_low h.tl (by omega), hl, below_setRow h.bel h.hg _, h.hg⟩
end
/-- Which of the last operations tell what. -/
theorem once_says {D : List (Int × Int)} {c q : Int} (h : ∀ p, p ∈ D → p ≠ (c, q)) {p : Int × Int} (hp : p ∈ D) : (p.1 == c && p.2 == q) = false := by
  have := h p hp
  cases h1 : (p.1 == c && p.2 == q)
  · rfl
  · simp only [Bool.and_eq_true, beq_iff_eq] at h1
    exact absurd (Prod.ext h1.1 h1.2) this
end Go.Proofs.Ytahfpncfkcfogaa
