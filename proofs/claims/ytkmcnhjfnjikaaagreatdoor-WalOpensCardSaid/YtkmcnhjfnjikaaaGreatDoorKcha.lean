/- What a change makes of the disk in memory. No condition. -/
import Derived.Test.YtkmcnhjfnjikaaaGreatDoorKcro
import Derived.Test.YtkmcnhjfnjikaaaGreatDoorKpur
namespace Go.Proofs.YtkmcnhjfnjikaaaGreatDoor
open Go.RowKit Go.Maps
/-- What a change answers, and the disk behind it. -/
def Chg (S : Nat → Prop) (w : World) (g : Nat) (x : Int) (d : DS) (e : Ending) (w' : World) : Prop := e = .returned (.int .i64 x) ∧ ∃ S', Dk S' w' g d ∧ Own S w S' w'
theorem kind_ne {w : World} {a b : Nat} {x y : Array Value} {t u : TypeId} {fr fs : Nat × Nat} (h : w.heap[a]? = some (.cells x t fr)) (k : w.heap[b]? = some (.cells y u fs)) (hne : t ≠ u) : a ≠ b := fun e => by
  rw [e, k] at h; injection h with h; injection h with _ h; exact hne h.symm
section
variable {S : Nat → Prop} {w w' : World} {g b : Nat} {lf : Int} {loc : ByteArray → Loc} {d : DS}
theorem OneF.block {x : Loc} {n k : Nat} {zs : List Int} (h : OneF w x n k zs) {r : Nat} (hr : x.r = some r) : ∃ cur, w.heap[r]? = some (.cells cur 5 (0, 0)) := by
  rcases h.data.2 with ⟨hv, _⟩ | ⟨q, cap, cur, hv, _, hg, _⟩
  · injection hv with hA; unfold Loc.A at hA; rw [hr] at hA; cases hA
  · injection hv with hA; unfold Loc.A at hA; rw [hr] at hA; injection hA with hA; injection hA with hA
    exact ⟨cur, by rw [hA]; exact hg⟩
/-- A file's own blocks alone turn: the others, the map and the disk stay. -/
theorem Dp.upd (h : Dp S w g b lf loc d) {f : Fl} (hf : f ∈ d.l) (f' : Fl) (hn : f'.nm = f.nm) (x : Loc) (hp : x.p = (loc f.nm).p)
    (ht : Turn (fun k => k = (loc f.nm).p ∨ (loc f.nm).r = some k) w w') (ho : OneF w' x f'.dt.length f'.kp f'.dt) (hr : ∀ r, x.r = some r → (loc f.nm).r = some r ∨ (w.heap.size ≤ r ∧ r < w'.heap.size))
    (hok : DOk { d with l := putF f' d.l }) : Dp (More S w w') w' g b lf (Go.Proofs.YtkmcnhjfnjikaaaGreatDoor.upd loc f.nm x) { d with l := putF f' d.l } ∧ Turn S w w' := by
  have hfo := h.files.one f hf
  have hts : Turn S w w' := ht.mono fun k hk => by
    rcases hk with rfl | hk
    · exact h.files.inp f hf
    · exact h.files.inr f hf k hk
  have stay : ∀ {k : Nat} {cs : Array Value} {t : TypeId} {fr : Nat × Nat}, w.heap[k]? = some (.cells cs t fr) → t ≠ 115 → t ≠ 5 → w'.heap[k]? = w.heap[k]? := fun {k cs t fr} hk h1 h2 => by
    refine ht.block k (Array.getElem?_eq_some_iff.1 hk).1 ?_
    rintro (e | e)
    · exact kind_ne hk hfo.head h1 e
    · obtain ⟨cur, hc⟩ := hfo.block e
      exact kind_ne hk hc h2 rfl
  have hmap : w'.heap[b]? = w.heap[b]? := by
    refine ht.block b h.map.lt ?_
    rintro (e | e)
    · exact h.map.ne hfo.head e.symm
    · exact h.map.ne_own hfo.data (by unfold Loc.A; rw [e]; rfl) rfl
  have hrest : Files (More S w w') w' (delF f.nm d.l) loc := by
    refine (h.files.del f.nm).kept (fun k hk => .inl hk) (fun y hy => ?_) (fun y hy r hr' => ?_)
    · obtain ⟨hy1, hy2⟩ := mem_delF.1 hy
      refine ht.block _ (h.files_lt hy1).1 ?_
      rintro (e | e)
      · exact hy2 (h.files.inj y hy1 f hf e)
      · obtain ⟨cur, hc⟩ := hfo.block e
        exact kind_ne (h.files.one y hy1).head hc (by decide) rfl
    · obtain ⟨hy1, hy2⟩ := mem_delF.1 hy
      refine ht.block _ ((h.files_lt hy1).2 r hr') ?_
      obtain ⟨cur, hc⟩ := (h.files.one y hy1).block hr'
      rintro (e | e)
      · exact kind_ne hc hfo.head (by decide) e
      · exact hy2 (h.files.apart y hy1 f hf r hr' e)
  have hput := hrest.put (up_delF h.ok.up) f' x ho (fun y hy _ e => ?_) (fun y hy _ r hyr hxr => ?_) (.inl (hp ▸ h.files.inp f hf)) (fun r hxr => ?_)
  · have hl : putF f' (delF f.nm d.l) = putF f' d.l := by
      rw [← hn]
      exact put_del f' d.l h.ok.up
    rw [hl, hn] at hput
    refine ⟨⟨hok, fun k hk => ?_, (stay h.row (by decide) (by decide)).trans h.row, h.lf, .inl h.sg, .inl h.sb, ?_, hput⟩, hts⟩
    · rcases hk with hk | hk
      · exact Nat.lt_of_lt_of_le (h.lt k hk) ht.size
      · exact hk.2
    · rw [← hn]
      exact (h.map.kept hmap).same h.ok.up f' x (by rw [hn, find_of_mem h.ok.up hf]; rfl) (by rw [hn]; exact hp)
  · obtain ⟨hy1, hy2⟩ := mem_delF.1 hy
    exact hy2 (h.files.inj y hy1 f hf (e.trans hp))
  · obtain ⟨hy1, hy2⟩ := mem_delF.1 hy
    rcases hr r hxr with e | e
    · exact hy2 (h.files.apart y hy1 f hf r hyr e)
    · have := (h.files_lt hy1).2 r hyr
      omega
  · rcases hr r hxr with e | e
    · exact .inl (h.files.inr f hf r e)
    · exact .inr e
/-- A file that lies apart is put into the map. -/
theorem Dp.add (h : Dp S w g b lf loc d) (f : Fl) (x : Loc) {T : Nat → Prop} (hT : ∀ k, S k → T k) (hTl : ∀ k, T k → k < w.heap.size) (ho : OneF w x f.dt.length f.kp f.dt) (hp : ∀ y, y ∈ d.l → y.nm ≠ f.nm → (loc y.nm).p ≠ x.p) (hr : ∀ y, y ∈ d.l → y.nm ≠ f.nm → ∀ r, (loc y.nm).r = some r → x.r ≠ some r)
    (h1 : T x.p) (h2 : ∀ r, x.r = some r → T r) (hg : w.grownBy w' (some b)) (hm : MapIs w' b (putF f d.l) (Go.Proofs.YtkmcnhjfnjikaaaGreatDoor.upd loc f.nm x)) (hok : DOk { d with l := putF f d.l }) :
    Dp T w' g b lf (Go.Proofs.YtkmcnhjfnjikaaaGreatDoor.upd loc f.nm x) { d with l := putF f d.l } := by
  have stay : ∀ {k : Nat} {cs : Array Value} {t : TypeId} {fr : Nat × Nat}, w.heap[k]? = some (.cells cs t fr) → w'.heap[k]? = w.heap[k]? := fun {k cs t fr} hk => by
    refine hg.block k (Array.getElem?_eq_some_iff.1 hk).1 fun e => ?_
    obtain ⟨D, ⟨es, c, hb, _⟩, _⟩ := h.map
    injection e with e
    rw [e, hb] at hk; cases hk
  have hfiles := (h.files.kept hT (fun y hy => rfl) (fun y hy r hr => rfl)).put h.ok.up f x ho hp hr h1 h2
  refine ⟨hok, fun k hk => Nat.lt_of_lt_of_le (hTl k hk) hg.size, (stay h.row).trans h.row, h.lf, hT _ h.sg, hT _ h.sb, hm, hfiles.kept (fun _ k => k) (fun y hy => stay (hfiles.one y hy).head) (fun y hy r hr => ?_)⟩
  obtain ⟨cur, hc⟩ := (hfiles.one y hy).block hr
  exact stay hc
end
theorem dok_put {d : DS} (h : DOk d) (f : Fl) (hk : f.kp ≤ f.dt.length) (hn : nameB f.nm = true) (ho : Octets f.dt) (ht : (total d.l : Int) + f.dt.length ≤ d.q + lenO (find f.nm d.l)) : DOk { d with l := putF f d.l } := by
  refine ⟨up_putF h.up, h.q, ?_, fun y hy => ?_, fun y hy => ?_, fun y hy => ?_, h.left⟩
  · have := total_putF f d.l h.up
    simp only; omega
  all_goals
    rcases (mem_putF h.up).1 hy with rfl | ⟨h1, _⟩
  · exact hk
  · exact h.kp y h1
  · exact hn
  · exact h.nm y h1
  · exact ho
  · exact h.oct y h1
theorem dok_del {d : DS} (h : DOk d) (nm : ByteArray) : DOk { d with l := delF nm d.l } := by
  refine ⟨up_delF h.up, h.q, ?_, fun y hy => h.kp y (mem_delF.1 hy).1, fun y hy => h.nm y (mem_delF.1 hy).1, fun y hy => h.oct y (mem_delF.1 hy).1, h.left⟩
  have := total_delF nm d.l h.up
  have := h.tot
  simp only; omega
/-- Its block, if it has one, is not of S. -/
def Out (S : Nat → Prop) (A : Option Addr) (zs : List Int) : Prop := 0 < zs.length → ∀ a, A = some a → ¬ S a.block
theorem Lies.turn {S : Nat → Prop} {w w' : World} {A : Option Addr} {zs : List Int} (h : Lies w A zs) (ht : Turn S w w') (ho : Out S A zs) : Lies w' A zs := fun hn => by
  obtain ⟨b, off, rfl, hlt, hc⟩ := h hn
  have e := ht.block b hlt (ho hn _ rfl)
  exact ⟨b, off, rfl, Nat.lt_of_lt_of_le hlt ht.size, fun k hk => (World.cell?_of_block (a := ⟨b, off + k, none⟩) e).trans (hc k hk)⟩
/-- append of a slice that lies onto a row of the call's own: where the new one lies. -/
theorem append_bytes {P : Program} {w : World} (t ty e : TypeId) (i : TypeInfo) (z : Value) (ht : P.underlying t = some (.slice e)) (hi : P.info? e = some i) (hz : i.zero = some z) (hsize : i.size = 1) (hby : i.bytes = 1) (hzs : z.cells.size = 1)
    (v : Value) (n : Nat) (xs : List Int) (hown : w.ownsRow 0 e 1 v n (cellsOf xs))
    (A : Option Addr) (m c : Nat) (zs : List Int) (hm : zs.length = m) (hc : A = none → c = 0) (hl : Lies w A zs) (hb : n + m ≤ 140737488355328) :
    ∃ v' w', (Builtin.append_ #[t, t] ty #[v, .slice A m c]).run P w = .ok v' w' ∧ w'.ownsRow 0 e 1 v' (n + m) (cellsOf (xs ++ zs)) ∧ w.grownBy w' v.ownBlock ∧ ∀ k, v'.ownBlock = some k → v.ownBlock = some k ∨ (w.heap.size ≤ k ∧ k < w'.heap.size) := by
  subst hm
  rcases A with _ | ad
  · have h0 := hl.nil_ rfl
    have hz0 : zs = [] := List.eq_nil_of_length_eq_zero h0
    subst hz0
    obtain rfl := hc rfl
    exact ⟨v, w, run_append_owned_none (P := P) (w := w) 0 t ty e i 1 ht hi v n (cellsOf xs) hown, by simpa using hown, grown_refl _ _, fun k hk => .inl hk⟩
  · have hsp : ∀ j u, (cellsOf zs)[j]? = some u → w.cell? (ad.add j) = some u := by
      intro j u hj
      obtain ⟨hk, _⟩ := cellsOf_some hj
      obtain ⟨b, off, e', _⟩ := hl (by omega)
      injection e' with e'
      subst e'
      exact Lies.cells hl j u hj
    obtain ⟨v', w', hr, h1, h2, _⟩ := run_append_own (P := P) w 0 t ty e i z 1 1 ht hi hz hsize hby hzs (by omega) v n (cellsOf xs) hown ad zs.length c (cellsOf zs) (by rw [length_cellsOf]; omega) hsp cellsOf_one (by unfold maxLen; omega) (by omega) (Nat.zero_le _)
    refine ⟨v', w', hr, by rw [cellsOf_append]; exact h1, h2, fun k hk => ?_⟩
    have hlt := (h1.lt k hk).2
    have key : v.ownBlock = some k ∨ w.heap.size ≤ k := by
      have hln := length_cellsOf zs
      rcases hown.2 with ⟨rfl, rfl⟩ | ⟨g, cap, cur, rfl, hbg, hg, hnc, hcm, hcs, htake⟩
      · by_cases hm : zs.length = 0
        · obtain rfl := List.eq_nil_of_length_eq_zero hm
          have h2 : (Builtin.append_ #[t, t] ty #[.slice none 0 0, .slice (some ad) 0 c]).run P w = .ok (.slice none 0 0) w := by
            simp [Builtin.append_, run_underlying ht, sizeOf, typeInfo, hi, Builtin.lenOf, Builtin.firstCells, loadCells, loadCellsFrom]
          rw [show ([] : List Int).length = 0 from rfl, h2] at hr
          injection hr with e1 _
          rw [← e1] at hk
          exact .inl hk
        · have h2 := run_append_nil (P := P) w t ty e i z ht hi hz ad zs.length c (cellsOf zs) (by rw [hln, hsize]; omega) hsp (by omega) (by omega) (by rw [hby]; omega)
          rw [h2] at hr
          injection hr with e1 _
          rw [← e1] at hk
          simp [Value.ownBlock] at hk
          exact .inr (by omega)
      · by_cases hroom : n + zs.length ≤ cap
        · have h2 := run_append_room (P := P) w t ty e i ht hi g n cap cur hg ad zs.length c (cellsOf zs) (by rw [hln, hsize]; omega) hsp cellsOf_one hroom (by rw [hln, hcs, hsize]; omega)
          rw [h2] at hr
          injection hr with e1 _
          rw [← e1] at hk
          exact .inl hk
        · have holds : ∀ j u, (cellsOf xs)[j]? = some u → w.cell? ((⟨g, 0, none⟩ : Addr).add j) = some u := hown.cells (g := g) rfl
          have h2 := run_append_grow (P := P) w t ty e i z ht hi hz ⟨g, 0, none⟩ n cap (cellsOf xs) (by rw [hsize]; exact hown.1) holds ad zs.length c (cellsOf zs) (by rw [hln, hsize]; omega) hsp (by omega) (by omega) (growslice_fits (by omega) (by rw [hby]; omega))
          rw [h2] at hr
          injection hr with e1 _
          rw [← e1] at hk
          simp [Value.ownBlock] at hk
          exact .inr (by omega)
    exact key.imp id fun h => ⟨h, hlt⟩
theorem wpList_append_full {P : Program} {w : World} {ops : Array Oper} {rest : List Oper} {o : Oper} {a : Act} {Q : Exit → Act → World → Prop} (hgd : o.guard = none) (s x : Operand) (t : TypeId)
    (ho : o.op = .call { callee := .builtin .append, args := #[s, x], argTypes := #[t, t] }) (v : Value) (A : Option Addr) (m c : Nat) (hs : a.eval s = v) (hx : a.eval x = .slice A m c)
    (X : Value → World → Prop) (hr : ∀ ty, ∃ v' w', (Builtin.append_ #[t, t] ty #[v, .slice A m c]).run P w = .ok v' w' ∧ X v' w')
    (h : ∀ v' w', X v' w' → wpList P ops Q rest (a.put o.dst v') w') : wpList P ops Q (o :: rest) a w := by
  refine wpList_plain hgd fun K' hK' => ?_
  obtain ⟨v', w', hrun, hX⟩ := hr o.type
  unfold Oper.wp execOp
  simp only [ho, resolve, invoke, builtin, Sem.run_bind, Sem.run_pure, Result.andThen_ok, List.map_toArray, List.map_cons, List.map_nil, hs, hx, hrun]
  exact hK' _ _ (h v' w' hX)
end Go.Proofs.YtkmcnhjfnjikaaaGreatDoor
/- Append of the program's disk. Conditions: what is appended lies apart from the disk, lengths have room. -/
namespace Go.Proofs.YtkmcnhjfnjikaaaGreatDoor
open Go.RowKit Go.Maps
section
variable {S : Nat → Prop} {w w' : World} {g b : Nat} {lf : Int} {loc : ByteArray → Loc} {d : DS}
theorem Chg.same (h : Dk S w g d) (x : Int) : Chg S w g x d (.returned (.int .i64 x)) w := ⟨rfl, S, h, Own.refl _ _⟩
theorem Chg.of_below {w1 : World} {x : Int} {e : Ending} (hb : Below w.heap.size w w1) (h : Chg S w1 g x d e w') : Chg S w g x d e w' := by
  obtain ⟨he, S', hd, ho⟩ := h
  exact ⟨he, S', hd, (Own.refl S w).trans ⟨(Turn.of_below hb).trans ho.turn fun k hk => .inl hk, fun k hk => (ho.new k hk).imp id fun h => Nat.le_trans hb.size h⟩⟩
/-- Its bytes appended to. -/
theorem Dp.append (h : Dp S w g b lf loc d) {f : Fl} (hf : f ∈ d.l) {A : Option Addr} {m c : Nat} {zs : List Int} (hm : zs.length = m) (hc : A = none → c = 0) (hl : Lies w A zs) (hz : Octets zs) (hb : (total d.l : Int) + m ≤ d.q) :
    ∀ ty, ∃ v' w', (Builtin.append_ #[31, 31] ty #[.slice (loc f.nm).A f.dt.length (loc f.nm).c, .slice A m c]).run Tryz.prog w = .ok v' w' ∧
      (∃ A' c', v' = .slice A' (f.dt.length + m) c') ∧ (w'.cell? ⟨(loc f.nm).p, 0, none⟩ = some (.slice (loc f.nm).A f.dt.length (loc f.nm).c) ∧ w'.frozen? ⟨(loc f.nm).p, 0, none⟩ = false) ∧ Dk (More S w (w'.setCell ⟨(loc f.nm).p, 0, none⟩ v')) (w'.setCell ⟨(loc f.nm).p, 0, none⟩ v') g { d with l := putF ⟨f.nm, f.dt ++ zs, f.kp⟩ d.l } ∧ Turn S w (w'.setCell ⟨(loc f.nm).p, 0, none⟩ v') := by
  intro ty
  obtain ⟨i0, hi, hz0, hz1, hz2⟩ := info_parts Tryz.info5
  have hfo := h.files.one f hf
  have h1 := h.ok.q.2
  have hfl := flen h.ok hf
  obtain ⟨v', w', hr, hown, hg, hwhere⟩ := append_bytes (P := Tryz.prog) (w := w) 31 ty 5 i0 (.int .u8 0) Tryz.underlying31 hi hz0 hz1 hz2 rfl _ _ f.dt hfo.data A m c zs hm hc hl (by omega)
  obtain ⟨A', c', rfl, hA'⟩ := own_shape hown
  have hpr : (loc f.nm).r ≠ some (loc f.nm).p := fun e => by
    obtain ⟨cur, hcur⟩ := hfo.block e
    exact kind_ne hfo.head hcur (by decide) rfl
  have hrow : Row w' (loc f.nm).p 115 #[.slice (loc f.nm).A f.dt.length (loc f.nm).c, .int .i64 f.kp] := hfo.head.grown hg (fun e => by
    unfold Loc.A Value.ownBlock at e
    cases hr : (loc f.nm).r with
    | none => rw [hr] at e; cases e
    | some r => rw [hr] at e; simp at e; exact hpr (by rw [hr, e]))
  obtain ⟨x, hxp, hxA, hxc⟩ : ∃ x : Loc, x.p = (loc f.nm).p ∧ x.A = A' ∧ x.c = c' := by
    rcases hown.2 with ⟨hv, _⟩ | ⟨q, cap, cur, hv, _⟩
    · injection hv with e1 _ e3
      exact ⟨⟨(loc f.nm).p, none, c'⟩, rfl, by rw [e1]; rfl, rfl⟩
    · injection hv with e1 _ e3
      exact ⟨⟨(loc f.nm).p, some q, c'⟩, rfl, by rw [e1]; rfl, rfl⟩
  have hxr : ∀ r, x.r = some r → A' = some ⟨r, 0, none⟩ := fun r hr => by rw [← hxA]; unfold Loc.A; rw [hr]; rfl
  have hlen : (f.dt ++ zs).length = f.dt.length + m := by rw [List.length_append, hm]
  have hwh : ∀ r, x.r = some r → (loc f.nm).r = some r ∨ (w.heap.size ≤ r ∧ r < w'.heap.size) := fun r hr => by
    have := hwhere r (by rw [hxr r hr]; rfl)
    refine this.imp (fun e => ?_) id
    unfold Loc.A Value.ownBlock at e
    cases hq : (loc f.nm).r with
    | none => rw [hq] at e; cases e
    | some q => rw [hq] at e; simp at e; rw [e]
  have hne : ∀ r, x.r = some r → r ≠ (loc f.nm).p := fun r hr e => by
    rcases hown.2 with ⟨hv, _⟩ | ⟨q, cap, cur, hv, _, hh, _⟩
    · injection hv with e1; rw [hxr r hr] at e1; cases e1
    · injection hv with e1; rw [hxr r hr] at e1; injection e1 with e1; injection e1 with e1
      rw [← e1, e] at hh
      exact kind_ne hrow hh (by decide) rfl
  have ht : Turn (fun k => k = (loc f.nm).p ∨ (loc f.nm).r = some k) w (w'.setCell ⟨(loc f.nm).p, 0, none⟩ (.slice A' (f.dt.length + m) c')) :=
    (Turn.of_grown hg (fun k hk => by
      unfold Loc.A Value.ownBlock at hk
      cases hq : (loc f.nm).r with
      | none => rw [hq] at hk; cases hk
      | some q => rw [hq] at hk; simp at hk; exact .inr (by rw [hk]))).put (.inl rfl) 0 _
  have hO : OneF (w'.setCell ⟨(loc f.nm).p, 0, none⟩ (.slice A' (f.dt.length + m) c')) x (f.dt ++ zs).length f.kp (f.dt ++ zs) := by
    have h2 : OneF w' x (f.dt ++ zs).length f.kp (f.dt ++ zs) → OneF (w'.setCell ⟨(loc f.nm).p, 0, none⟩ (.slice A' (f.dt.length + m) c')) x (f.dt ++ zs).length f.kp (f.dt ++ zs) := fun k => by
      exact k.kept (by
        have := k.head
        rw [hxp] at this ⊢
        have e := this.put 0 (.slice A' (f.dt.length + m) c')
        unfold Row at this e
        rw [e, this, hxA, hxc, hlen]; rfl) (fun r hr => Below.heap_setCell _ _ _ _ (hne r hr))
    refine ⟨?_, ?_⟩
    · rw [hxp, hxA, hxc, hlen]; exact hrow.put 0 _
    · rw [hxA, hxc, hlen]
      refine ⟨hown.1, ?_⟩
      rcases hown.2 with hv | ⟨q, cap, cur, hv, hb, hh, rest⟩
      · exact .inl hv
      · refine .inr ⟨q, cap, cur, hv, hb, ?_, rest⟩
        rw [Below.heap_setCell _ _ _ _ (by
          show q ≠ (loc f.nm).p
          intro e
          rw [e] at hh
          exact kind_ne hrow hh (by decide) rfl)]
        exact hh
  obtain ⟨hD, hT⟩ := h.upd hf ⟨f.nm, f.dt ++ zs, f.kp⟩ rfl x hxp ht hO (fun r hr => (hwh r hr).imp id fun k => ⟨k.1, by simpa [World.setCell] using k.2⟩)
    (dok_put h.ok _ (by show f.kp ≤ (f.dt ++ zs).length; rw [hlen]; have := h.ok.kp f hf; omega) (h.ok.nm f hf) (fun z hz' => (List.mem_append.1 hz').elim (h.ok.oct f hf z) (hz z)) (by
      simp only
      rw [find_of_mem h.ok.up hf, hlen]
      simp only [lenO]
      omega))
  exact ⟨_, w', hr, ⟨A', c', rfl⟩, ⟨hrow.cell 0, hrow.free 0⟩, ⟨b, lf, _, hD⟩, hT⟩
/-- A new file, of nothing. -/
theorem Dp.create (h : Dp S w g b lf loc d) (nm : ByteArray) (hn : nameB nm = true) (hl : d.l.length < 9000000000) :
    ∃ w', (Instr.mapUpdate 74 (.map (some b)) (.string nm) (.pointer (some ⟨w.heap.size, 0, none⟩))).run Tryz.prog (w.alloc (.cells #[.slice none 0 0, .int .i64 0] 115)) = .ok () w' ∧
      Dp (More S w (w.alloc (.cells #[.slice none 0 0, .int .i64 0] 115))) w' g b lf (Go.Proofs.YtkmcnhjfnjikaaaGreatDoor.upd loc nm ⟨w.heap.size, none, 0⟩) { d with l := putF ⟨nm, [], 0⟩ d.l } ∧ Turn S w w' := by
  have hb := (Below.refl w.heap.size w).alloc (Nat.le_refl _) (.cells #[.slice none 0 0, .int .i64 0] 115)
  have h1 := h.below hb
  have hsz := (name_size hn).2
  obtain ⟨w', hr, hm, hg⟩ := h1.map.put h.ok.up (by unfold maxLen; omega) ⟨nm, [], 0⟩ ⟨w.heap.size, none, 0⟩ (by unfold maxLen; simp only; omega)
  have hs1 : (w.alloc (.cells #[.slice none 0 0, .int .i64 0] 115)).heap.size = w.heap.size + 1 := by simp
  have hs2 := hg.size
  have hT : Turn S w w' := (Turn.of_below hb).trans (Turn.of_grown (S := S) hg (fun k e => by injection e with e; rw [← e]; exact h.sb)) (fun k hk => .inl hk)
  refine ⟨w', hr, h1.add ⟨nm, [], 0⟩ ⟨w.heap.size, none, 0⟩ (T := More S w (w.alloc (.cells #[.slice none 0 0, .int .i64 0] 115))) (fun k hk => .inl hk) (fun k hk => ?_) ⟨Row.new w _ _, World.ownsRow_nil _ _ _ _⟩ (fun y hy _ e => ?_) (fun y hy _ r hr e => by cases e) (.inr ⟨Nat.le_refl _, by show w.heap.size < (w.alloc _).heap.size; simp⟩) (fun r e => by cases e) hg hm ?_, hT⟩
  · rcases hk with hk | hk
    · have := h.lt k hk
      omega
    · exact hk.2
  · have := (h.files_lt hy).1
    simp only at e
    omega
  · exact dok_put h.ok _ (Nat.le_refl _) hn (fun z hz => (by cases hz)) (by simp only [List.length_nil]; have := h.ok.tot; omega)
end
end Go.Proofs.YtkmcnhjfnjikaaaGreatDoor
/- Append of the program's disk: its walks. Conditions: what is appended lies apart from the disk, lengths have room. -/
namespace Go.Proofs.YtkmcnhjfnjikaaaGreatDoor
open Go.RowKit Go.Maps
section
variable {S : Nat → Prop} {w : World} {g : Nat} {d : DS} {nm : ByteArray} {A : Option Addr} {n c : Nat} {zs : List Int}
set_option maxHeartbeats 1000000 in
theorem app_off (h : Dk S w g d) (ho : d.off = true) :
    Calls Tryz.prog 30 #[.pointer (some ⟨g, 0, none⟩), .string nm, .slice A n c] w (Chg S w g 10 d) := by
  have H := hide (Chg.same h 10)
  obtain ⟨b, lf, loc, h⟩ := h
  have c3 : w.cell? ⟨g, 3, none⟩ = some (.bool true) := by rw [h.row.cell 3, ho]; rfl
  clear h ho
  go_enter Tryz.func30, Tryz.ntmps30
  go_wp2
  go_ret
  exact H.out
set_option maxHeartbeats 1000000 in
theorem app_path (h : Dk S w g d) (hs : nm.size ≤ 140737488351232) (ho : d.off = false) (hn : nameB nm = false) :
    Calls Tryz.prog 30 #[.pointer (some ⟨g, 0, none⟩), .string nm, .slice A n c] w (Chg S w g 11 d) := by
  have H := hide (Chg.same h 11)
  have hN := hide (hn ▸ mayBe_any nm w hs)
  obtain ⟨b, lf, loc, h⟩ := h
  have c3 : w.cell? ⟨g, 3, none⟩ = some (.bool false) := by rw [h.row.cell 3, ho]; rfl
  clear h ho hn
  go_enter Tryz.func30, Tryz.ntmps30
  go_wp2_with (go_at_call 63; (with_reducible refine hN.out.mono ?_); rintro e w' ⟨rfl, rfl⟩)
  go_ret
  exact H.out
set_option maxHeartbeats 1000000 in
theorem app_full (h : Dk S w g d) (ho : d.off = false) (hn : nameB nm = true) (hf : d.q < total d.l + n) :
    Calls Tryz.prog 30 #[.pointer (some ⟨g, 0, none⟩), .string nm, .slice A n c] w (Chg S w g 7 d) := by
  have H := hide (fun w' (hb : Below w.heap.size w w') => (Chg.same (h.below hb) 7).of_below hb)
  have hs := (name_size hn).2
  have hN := hide (hn ▸ mayBe_any nm w (by omega))
  have hR := hide (room_any g d w h)
  have hq := h.ok.q
  have ht := h.ok.tot
  obtain ⟨b, lf, loc, h⟩ := h
  have c3 : w.cell? ⟨g, 3, none⟩ = some (.bool false) := by rw [h.row.cell 3, ho]; rfl
  have hgt : d.q - (total d.l : Int) < n := by omega
  clear h ho hn
  go_enter Tryz.func30, Tryz.ntmps30
  go_wp2_with (first
    | (go_at_call 63; (with_reducible refine hN.out.mono ?_); rintro e w' ⟨rfl, rfl⟩)
    | (go_at_call 34; (with_reducible refine hR.out.mono ?_); rintro e w' ⟨rfl, hb⟩))
  go_ret
  exact H.out _ hb
/-- .. as far as the changes that are left. -/
theorem Chg.spent {w1 w2 : World} (h : Dk S w2 g d.spent) (hg : w1.grownBy w2 (some g)) (hS : S g) (hb : Below w.heap.size w w1) (x : Int) : Chg S w g x d.spent (.returned (.int .i64 x)) w2 :=
  Chg.of_below hb ⟨rfl, S, h, ⟨Turn.of_grown hg (fun k e => by injection e with e; rw [← e]; exact hS), fun _ hk => .inl hk⟩⟩
set_option maxHeartbeats 1000000 in
theorem app_down (h : Dk S w g d) (ho : d.off = false) (hn : nameB nm = true) (hf : total d.l + n ≤ d.q) (hl : d.left = 0) :
    Calls Tryz.prog 30 #[.pointer (some ⟨g, 0, none⟩), .string nm, .slice A n c] w (Chg S w g 10 d.spent) := by
  have hs := (name_size hn).2
  have hN := hide (hn ▸ mayBe_any nm w (by omega))
  have hR := hide (room_any g d w h)
  have hq := h.ok.q
  have ht := h.ok.tot
  have hsp : d.spends = false := by unfold DS.spends; rw [hl]; rfl
  have hP := hide (fun w1 (hb : Below w.heap.size w w1) => hsp ▸ spend_any g d w1 (h.below hb))
  obtain ⟨b, lf, loc, h⟩ := h
  have H := hide (fun w1 w2 (hb : Below w.heap.size w w1) (k : Dk S w2 g d.spent) (hg : w1.grownBy w2 (some g)) => Chg.spent (w := w) k hg h.sg hb 10)
  have c3 : w.cell? ⟨g, 3, none⟩ = some (.bool false) := by rw [h.row.cell 3, ho]; rfl
  have hgt : (n : Int) ≤ d.q - (total d.l : Int) := by omega
  clear h ho hn hsp hl
  go_enter Tryz.func30, Tryz.ntmps30
  go_wp2_with (first
    | (go_at_call 63; (with_reducible refine hN.out.mono ?_); rintro e w' ⟨rfl, rfl⟩)
    | (go_at_call 34; (with_reducible refine hR.out.mono ?_); rintro e w1 ⟨rfl, hb⟩)
    | (go_at_call 64; (with_reducible refine (hP.out _ hb).mono ?_); rintro e w2 ⟨rfl, hD, hg⟩))
  go_ret
  exact H.out _ _ hb hD hg
/-- What goes on in the last region: the file is there. -/
structure AppR (S : Nat → Prop) (w w3 : World) (S3 : Nat → Prop) (g : Nat) (d : DS) (f : Fl) (p : Nat) (B : Option Addr) (cb : Nat) (A : Option Addr) (n c : Nat) (zs : List Int) : Prop where
  cell : w3.cell? ⟨p, 0, none⟩ = some (.slice B f.dt.length cb)
  run : ∀ ty, ∃ v' w', (Builtin.append_ #[31, 31] ty #[.slice B f.dt.length cb, .slice A n c]).run Tryz.prog w3 = .ok v' w' ∧
      ((∃ A' c', v' = .slice A' (f.dt.length + n) c') ∧ (w'.cell? ⟨p, 0, none⟩ = some (.slice B f.dt.length cb) ∧ w'.frozen? ⟨p, 0, none⟩ = false) ∧ Chg S w g 0 { d.spent with l := putF ⟨f.nm, f.dt ++ zs, f.kp⟩ d.l } (.returned (.int .i64 0)) (w'.setCell ⟨p, 0, none⟩ v'))
set_option maxRecDepth 100000 in
set_option maxHeartbeats 1000000 in
theorem app_old (h : Dk S w g d) (ho : d.off = false) (hn : nameB nm = true) (hm : zs.length = n) (hc : A = none → c = 0) (hl : Lies w A zs) (hout : Out S A zs) (hz : Octets zs) (hf : total d.l + n ≤ d.q) (h0 : d.left ≠ 0) {f : Fl} (hfd : find nm d.l = some f) :
    Calls Tryz.prog 30 #[.pointer (some ⟨g, 0, none⟩), .string nm, .slice A n c] w (Chg S w g 0 { d.spent with l := putF ⟨nm, f.dt ++ zs, f.kp⟩ d.l }) := by
  have hs := (name_size hn).2
  have hN := hide (hn ▸ mayBe_any nm w (by omega))
  have hR := hide (room_any g d w h)
  have hq := h.ok.q
  have ht := h.ok.tot
  have hsp : d.spends = true := by unfold DS.spends; simpa using h0
  have hP := hide (fun w1 (hb : Below w.heap.size w w1) => hsp ▸ spend_any g d w1 (h.below hb))
  have hgt : (n : Int) ≤ d.q - (total d.l : Int) := by omega
  obtain ⟨hfm, rfl⟩ := find_mem hfd
  obtain ⟨b, lf, loc, h⟩ := h
  have H := hide (show ∀ w1 w2, Below w.heap.size w w1 → Dk S w2 g d.spent → w1.grownBy w2 (some g) → ∃ b p B cb, w2.cell? ⟨g, 1, none⟩ = some (.map (some b)) ∧
      (Instr.lookup 74 (.map (some b)) (.string f.nm) false).run Tryz.prog w2 = .ok (.pointer (some ⟨p, 0, none⟩)) w2 ∧ AppR S w w2 S g d f p B cb A n c zs from by
    intro w1 w2 hb hD hg
    obtain ⟨b2, lf2, loc2, h2⟩ := hD
    have hT : Turn S w w2 := (Turn.of_below hb).trans (Turn.of_grown (S := S) hg (fun k e => by injection e with e; rw [← e]; exact h.sg)) (fun k hk => .inl hk)
    have hl2 : f ∈ d.spent.l := by rw [spent_l]; exact hfm
    refine ⟨b2, (loc2 f.nm).p, (loc2 f.nm).A, (loc2 f.nm).c, h2.row.cell 1, ?_, (h2.files.one f hl2).head.cell 0, fun ty => ?_⟩
    · have := h2.map.look f.nm (by unfold maxLen; omega)
      unfold ptrO at this
      rw [find_of_mem h2.ok.up hl2] at this
      exact this
    · obtain ⟨v', w', hr, hsl, hrow, hD', hT'⟩ := h2.append hl2 hm hc (hl.turn hT hout) hz (by rw [spent_l, spent_q]; omega) ty
      rw [spent_l] at hD'
      exact ⟨v', w', hr, hsl, hrow, rfl, _, hD', ⟨hT.trans hT' (fun k hk => .inl hk), fun k hk => hk.imp id fun e => Nat.le_trans hT.size e.1⟩⟩)
  have c3 : w.cell? ⟨g, 3, none⟩ = some (.bool false) := by rw [h.row.cell 3, ho]; rfl
  subst hm
  clear h ho hn hsp h0 hfm hfd hl hz hout hc
  go_enter Tryz.func30, Tryz.ntmps30
  go_upto_region 9 with (first
    | (go_at_call 63; (with_reducible refine hN.out.mono ?_); rintro e w' ⟨rfl, rfl⟩)
    | (go_at_call 34; (with_reducible refine hR.out.mono ?_); rintro e w1 ⟨rfl, hb⟩)
    | (go_at_call 64; (with_reducible refine (hP.out _ hb).mono ?_); rintro e w2 ⟨rfl, hD, hg⟩))
  obtain ⟨b2, p, B, cb, d1, hlk, hA⟩ := H.out w1 w2 hb hD hg
  have p0 := hA.cell
  have hrun := hide hA.run
  clear hb hD hg H hN hR hP c3 hA
  go_wp2_with (at_builtin; refine wpList_append_full rfl _ _ 31 rfl _ _ _ _ rfl rfl _ hrun.out ?_; intro v' w' hX; obtain ⟨⟨A', c', rfl⟩, ⟨q0, f0⟩, hC⟩ := hX; clear hrun p0)
  go_ret
  exact hC
set_option maxRecDepth 100000 in
set_option maxHeartbeats 1000000 in
theorem app_new (h : Dk S w g d) (ho : d.off = false) (hn : nameB nm = true) (hm : zs.length = n) (hc : A = none → c = 0) (hl : Lies w A zs) (hout : Out S A zs) (hz : Octets zs) (hf : total d.l + n ≤ d.q) (h0 : d.left ≠ 0) (hfd : find nm d.l = none) (hln : d.l.length < 9000000000) :
    Calls Tryz.prog 30 #[.pointer (some ⟨g, 0, none⟩), .string nm, .slice A n c] w (Chg S w g 0 { d.spent with l := putF ⟨nm, zs, 0⟩ d.l }) := by
  have hs := (name_size hn).2
  have hN := hide (hn ▸ mayBe_any nm w (by omega))
  have hR := hide (room_any g d w h)
  have hq := h.ok.q
  have ht := h.ok.tot
  have hsp : d.spends = true := by unfold DS.spends; simpa using h0
  have hP := hide (fun w1 (hb : Below w.heap.size w w1) => hsp ▸ spend_any g d w1 (h.below hb))
  have hgt : (n : Int) ≤ d.q - (total d.l : Int) := by omega
  obtain ⟨b, lf, loc, h⟩ := h
  have H := hide (show ∀ w1 w2, Below w.heap.size w w1 → Dk S w2 g d.spent → w1.grownBy w2 (some g) → ∃ b, w2.cell? ⟨g, 1, none⟩ = some (.map (some b)) ∧
      (Instr.lookup 74 (.map (some b)) (.string nm) false).run Tryz.prog w2 = .ok (.pointer none) w2 ∧
      (w2.alloc (.cells #[.slice none 0 0, .int .i64 0] 115)).cell? ⟨g, 1, none⟩ = some (.map (some b)) ∧
      ∃ w3, (Instr.mapUpdate 74 (.map (some b)) (.string nm) (.pointer (some ⟨w2.heap.size, 0, none⟩))).run Tryz.prog (w2.alloc (.cells #[.slice none 0 0, .int .i64 0] 115)) = .ok () w3 ∧
      ∃ S3, AppR S w w3 S3 g d ⟨nm, [], 0⟩ w2.heap.size none 0 A n c zs from by
    intro w1 w2 hb hD hg
    obtain ⟨b2, lf2, loc2, h2⟩ := hD
    have hT : Turn S w w2 := (Turn.of_below hb).trans (Turn.of_grown (S := S) hg (fun k e => by injection e with e; rw [← e]; exact h.sg)) (fun k hk => .inl hk)
    obtain ⟨w3, hr3, h3, hT3⟩ := h2.create nm hn (by rw [spent_l]; exact hln)
    have hT13 : Turn S w w3 := hT.trans hT3 (fun k hk => .inl hk)
    have hm3 : (⟨nm, [], 0⟩ : Fl) ∈ putF ⟨nm, [], 0⟩ d.spent.l := (mem_putF h2.ok.up).2 (.inl rfl)
    have e2 : Go.Proofs.YtkmcnhjfnjikaaaGreatDoor.upd loc2 nm ⟨w2.heap.size, none, 0⟩ nm = ⟨w2.heap.size, none, 0⟩ := upd_self ..
    refine ⟨b2, h2.row.cell 1, ?_, (h2.row.alloc _).cell 1, w3, hr3, More S w2 (w2.alloc (.cells #[.slice none 0 0, .int .i64 0] 115)), ?_, fun ty => ?_⟩
    · have := h2.map.look nm (by unfold maxLen; omega)
      unfold ptrO at this
      rw [spent_l, hfd] at this
      exact this
    · have := (h3.files.one _ hm3).head.cell 0
      simp only [e2] at this
      exact this
    · have htot : total (putF ⟨nm, [], 0⟩ d.l) = total d.l := by
        have := total_putF ⟨nm, [], 0⟩ d.l (by have := h2.ok.up; rwa [spent_l] at this)
        simp only [hfd, lenO, List.length_nil] at this
        omega
      obtain ⟨v', w', hr, hsl, hrow, hD', hT'⟩ := h3.append hm3 hm hc (hl.turn hT13 hout) hz (by simp only [spent_l, spent_q]; omega) ty
      simp only [e2, spent_l] at hr hsl hrow hD' hT'
      have hpp : putF ⟨nm, [] ++ zs, 0⟩ (putF ⟨nm, [], 0⟩ d.l) = putF ⟨nm, [] ++ zs, 0⟩ d.l := put_put ⟨nm, [], 0⟩ ⟨nm, [] ++ zs, 0⟩ rfl d.l
      rw [hpp] at hD'
      refine ⟨v', w', hr, hsl, hrow, rfl, _, hD', ⟨hT13.trans hT' (fun k hk => ?_), fun k hk => ?_⟩⟩
      · rcases hk with hk | hk
        · exact .inl hk
        · exact .inr (Nat.le_trans hT.size hk.1)
      · rcases hk with (hk | hk) | hk
        · exact .inl hk
        · exact .inr (Nat.le_trans hT.size hk.1)
        · exact .inr (Nat.le_trans hT13.size hk.1))
  have c3 : w.cell? ⟨g, 3, none⟩ = some (.bool false) := by rw [h.row.cell 3, ho]; rfl
  subst hm
  clear h ho hn hsp h0 hfd hl hz hout hc
  go_enter Tryz.func30, Tryz.ntmps30
  go_upto_region 9 with (first
    | (go_at_call 63; (with_reducible refine hN.out.mono ?_); rintro e w' ⟨rfl, rfl⟩)
    | (go_at_call 34; (with_reducible refine hR.out.mono ?_); rintro e w1 ⟨rfl, hb⟩)
    | (go_at_call 64; (with_reducible refine (hP.out _ hb).mono ?_); rintro e w2 ⟨rfl, hD, hg⟩))
  obtain ⟨b2, d1, hlk, d2, w3, hup, S3, hA⟩ := H.out w1 w2 hb hD hg
  have p0 := hA.cell
  have hrun := hide hA.run
  clear hb hD hg H hN hR hP c3 hA
  go_wp2_with (at_builtin; refine wpList_append_full rfl _ _ 31 rfl _ _ _ _ rfl rfl _ hrun.out ?_; intro v' w' hX; obtain ⟨⟨A', c', rfl⟩, ⟨q0, f0⟩, hC⟩ := hX; clear hrun p0)
  simp only [List.length_nil, Nat.zero_add, List.nil_append] at hC
  go_ret
  exact hC
/-- Append, in all its ways. -/
theorem append_any (g : Nat) (nm : ByteArray) (A : Option Addr) (n c : Nat) (zs : List Int) (d : DS) (w : World) (h : Dk S w g d) (hs : nm.size ≤ 140737488351232) (hm : zs.length = n) (hc : A = none → c = 0) (hl : Lies w A zs) (hout : Out S A zs) (hz : Octets zs) (hln : d.l.length < 9000000000) :
    Calls Tryz.prog 30 #[.pointer (some ⟨g, 0, none⟩), .string nm, .slice A n c] w (Chg S w g (appE d nm zs) (appS d nm zs)) := by
  subst hm
  unfold appE appS
  cases ho : d.off with
  | true => exact app_off h ho
  | false =>
    cases hn : nameB nm with
    | false => exact app_path h hs ho hn
    | true =>
      by_cases hf : d.q < total d.l + zs.length
      · simp only [hf, if_true, Bool.false_eq_true, if_false, reduceCtorEq]; exact app_full h ho hn hf
      · by_cases h0 : d.left = 0
        · simp only [hf, h0, if_true, Bool.false_eq_true, if_false, reduceCtorEq]; exact app_down h ho hn (by omega) h0
        · simp only [hf, h0, Bool.false_eq_true, if_false, reduceCtorEq]
          cases hfd : find nm d.l with
          | some f => exact app_old h ho hn rfl hc hl hout hz (by omega) h0 hfd
          | none => exact app_new h ho hn rfl hc hl hout hz (by omega) h0 hfd hln
end
end Go.Proofs.YtkmcnhjfnjikaaaGreatDoor
