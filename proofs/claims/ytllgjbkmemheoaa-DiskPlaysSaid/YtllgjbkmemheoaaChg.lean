/- What a change makes of the disk in memory. No condition. -/
import Derived.Test.YtllgjbkmemheoaaRead
import Derived.Test.YtllgjbkmemheoaaRoom2
import Derived.Test.YtllgjbkmemheoaaName
namespace Go.Proofs.Ytllgjbkmemheoaa
open Go.RowKit Go.Maps
/-- What a change answers, and the disk behind it. -/
def Chg (S : Nat → Prop) (w : World) (g : Nat) (x : Int) (d : DS) (e : Ending) (w' : World) : Prop := e = .returned (.int .i64 x) ∧ ∃ S', Dk S' w' g d ∧ Own S w S' w'
theorem kind_ne {w : World} {a b : Nat} {x y : Array Value} {t u : TypeId} {fr fs : Nat × Nat} (h : w.heap[a]? = some (.cells x t fr)) (k : w.heap[b]? = some (.cells y u fs)) (hne : t ≠ u) : a ≠ b := fun e => by
  rw [e, k] at h; injection h with h; injection h with _ h; exact hne h.symm
section
variable {S : Nat → Prop} {w w' : World} {g b : Nat} {lf : Int} {loc : ByteArray → Loc} {d : DS}
theorem OneF.block {x : Loc} {n k : Nat} {zs : List Int} (h : OneF w x n k zs) {r : Nat} (hr : x.r = some r) : ∃ cur, w.heap[r]? = some (.cells cur 5 (0, 0)) := by
  rcases h.data.2 with ⟨hv, _⟩ | ⟨q, cap, cur, hv, _, hg, _⟩
  · injection hv with hA; unfold Loc.A at hA; rw [hr] at hA; cases hA
  · injection hv with hA; unfold Loc.A at hA; rw [hr] at hA; injection hA with hA; injection hA with hA
    exact ⟨cur, by rw [hA]; exact hg⟩
/-- A file's own blocks alone turn: the others, the map and the disk stay. -/
theorem Dp.upd (h : Dp S w g b lf loc d) {f : Fl} (hf : f ∈ d.l) (f' : Fl) (hn : f'.nm = f.nm) (x : Loc) (hp : x.p = (loc f.nm).p)
    (ht : Turn (fun k => k = (loc f.nm).p ∨ (loc f.nm).r = some k) w w') (ho : OneF w' x f'.dt.length f'.kp f'.dt) (hr : ∀ r, x.r = some r → (loc f.nm).r = some r ∨ (w.heap.size ≤ r ∧ r < w'.heap.size))
    (hok : DOk { d with l := putF f' d.l }) : Dp (More S w w') w' g b lf (Go.Proofs.Ytllgjbkmemheoaa.upd loc f.nm x) { d with l := putF f' d.l } ∧ Turn S w w' := by
  have hfo := h.files.one f hf
  have hts : Turn S w w' := ht.mono fun k hk => by
    rcases hk with rfl | hk
    · exact h.files.inp f hf
    · exact h.files.inr f hf k hk
  have stay : ∀ {k : Nat} {cs : Array Value} {t : TypeId} {fr : Nat × Nat}, w.heap[k]? = some (.cells cs t fr) → t ≠ 62 → t ≠ 5 → w'.heap[k]? = w.heap[k]? := fun {k cs t fr} hk h1 h2 => by
    refine ht.block k (Array.getElem?_eq_some_iff.1 hk).1 ?_
    rintro (e | e)
    · exact kind_ne hk hfo.head h1 e
    · obtain ⟨cur, hc⟩ := hfo.block e
      exact kind_ne hk hc h2 rfl
  have hmap : w'.heap[b]? = w.heap[b]? := by
    refine ht.block b h.map.lt ?_
    rintro (e | e)
    · exact h.map.ne hfo.head e.symm
    · exact h.map.ne_own hfo.data (by unfold Loc.A; rw [e]; rfl) rfl
  have hrest : Files (More S w w') w' (delF f.nm d.l) loc := by
    refine (h.files.del f.nm).kept (fun k hk => .inl hk) (fun y hy => ?_) (fun y hy r hr' => ?_)
    · obtain ⟨hy1, hy2⟩ := mem_delF.1 hy
      refine ht.block _ (h.files_lt hy1).1 ?_
      rintro (e | e)
      · exact hy2 (h.files.inj y hy1 f hf e)
      · obtain ⟨cur, hc⟩ := hfo.block e
        exact kind_ne (h.files.one y hy1).head hc (by decide) rfl
    · obtain ⟨hy1, hy2⟩ := mem_delF.1 hy
      refine ht.block _ ((h.files_lt hy1).2 r hr') ?_
      obtain ⟨cur, hc⟩ := (h.files.one y hy1).block hr'
      rintro (e | e)
      · exact kind_ne hc hfo.head (by decide) e
      · exact hy2 (h.files.apart y hy1 f hf r hr' e)
  have hput := hrest.put (up_delF h.ok.up) f' x ho (fun y hy _ e => ?_) (fun y hy _ r hyr hxr => ?_) (.inl (hp ▸ h.files.inp f hf)) (fun r hxr => ?_)
  · have hl : putF f' (delF f.nm d.l) = putF f' d.l := by
      rw [← hn]
      exact put_del f' d.l h.ok.up
    rw [hl, hn] at hput
    refine ⟨⟨hok, fun k hk => ?_, (stay h.row (by decide) (by decide)).trans h.row, h.lf, .inl h.sg, .inl h.sb, ?_, hput⟩, hts⟩
    · rcases hk with hk | hk
      · exact Nat.lt_of_lt_of_le (h.lt k hk) ht.size
      · exact hk.2
    · rw [← hn]
      exact (h.map.kept hmap).same h.ok.up f' x (by rw [hn, find_of_mem h.ok.up hf]; rfl) (by rw [hn]; exact hp)
  · obtain ⟨hy1, hy2⟩ := mem_delF.1 hy
    exact hy2 (h.files.inj y hy1 f hf (e.trans hp))
  · obtain ⟨hy1, hy2⟩ := mem_delF.1 hy
    rcases hr r hxr with e | e
    · exact hy2 (h.files.apart y hy1 f hf r hyr e)
    · have := (h.files_lt hy1).2 r hyr
      omega
  · rcases hr r hxr with e | e
    · exact .inl (h.files.inr f hf r e)
    · exact .inr e
/-- A file that lies apart is put into the map. -/
theorem Dp.add (h : Dp S w g b lf loc d) (f : Fl) (x : Loc) {T : Nat → Prop} (hT : ∀ k, S k → T k) (hTl : ∀ k, T k → k < w.heap.size) (ho : OneF w x f.dt.length f.kp f.dt) (hp : ∀ y, y ∈ d.l → y.nm ≠ f.nm → (loc y.nm).p ≠ x.p) (hr : ∀ y, y ∈ d.l → y.nm ≠ f.nm → ∀ r, (loc y.nm).r = some r → x.r ≠ some r)
    (h1 : T x.p) (h2 : ∀ r, x.r = some r → T r) (hg : w.grownBy w' (some b)) (hm : MapIs w' b (putF f d.l) (Go.Proofs.Ytllgjbkmemheoaa.upd loc f.nm x)) (hok : DOk { d with l := putF f d.l }) :
    Dp T w' g b lf (Go.Proofs.Ytllgjbkmemheoaa.upd loc f.nm x) { d with l := putF f d.l } := by
  have stay : ∀ {k : Nat} {cs : Array Value} {t : TypeId} {fr : Nat × Nat}, w.heap[k]? = some (.cells cs t fr) → w'.heap[k]? = w.heap[k]? := fun {k cs t fr} hk => by
    refine hg.block k (Array.getElem?_eq_some_iff.1 hk).1 fun e => ?_
    obtain ⟨D, ⟨es, c, hb, _⟩, _⟩ := h.map
    injection e with e
    rw [e, hb] at hk; cases hk
  have hfiles := (h.files.kept hT (fun y hy => rfl) (fun y hy r hr => rfl)).put h.ok.up f x ho hp hr h1 h2
  refine ⟨hok, fun k hk => Nat.lt_of_lt_of_le (hTl k hk) hg.size, (stay h.row).trans h.row, h.lf, hT _ h.sg, hT _ h.sb, hm, hfiles.kept (fun _ k => k) (fun y hy => stay (hfiles.one y hy).head) (fun y hy r hr => ?_)⟩
  obtain ⟨cur, hc⟩ := (hfiles.one y hy).block hr
  exact stay hc
end
theorem dok_put {d : DS} (h : DOk d) (f : Fl) (hk : f.kp ≤ f.dt.length) (hn : nameB f.nm = true) (ho : Octets f.dt) (ht : (total d.l : Int) + f.dt.length ≤ d.q + lenO (find f.nm d.l)) : DOk { d with l := putF f d.l } := by
  refine ⟨up_putF h.up, h.q, ?_, fun y hy => ?_, fun y hy => ?_, fun y hy => ?_, h.left⟩
  · have := total_putF f d.l h.up
    simp only; omega
  all_goals
    rcases (mem_putF h.up).1 hy with rfl | ⟨h1, _⟩
  · exact hk
  · exact h.kp y h1
  · exact hn
  · exact h.nm y h1
  · exact ho
  · exact h.oct y h1
theorem dok_del {d : DS} (h : DOk d) (nm : ByteArray) : DOk { d with l := delF nm d.l } := by
  refine ⟨up_delF h.up, h.q, ?_, fun y hy => h.kp y (mem_delF.1 hy).1, fun y hy => h.nm y (mem_delF.1 hy).1, fun y hy => h.oct y (mem_delF.1 hy).1, h.left⟩
  have := total_delF nm d.l h.up
  have := h.tot
  simp only; omega
/-- Its block, if it has one, is not of S. -/
def Out (S : Nat → Prop) (A : Option Addr) (zs : List Int) : Prop := 0 < zs.length → ∀ a, A = some a → ¬ S a.block
theorem Lies.turn {S : Nat → Prop} {w w' : World} {A : Option Addr} {zs : List Int} (h : Lies w A zs) (ht : Turn S w w') (ho : Out S A zs) : Lies w' A zs := fun hn => by
  obtain ⟨b, off, rfl, hlt, hc⟩ := h hn
  have e := ht.block b hlt (ho hn _ rfl)
  exact ⟨b, off, rfl, Nat.lt_of_lt_of_le hlt ht.size, fun k hk => (World.cell?_of_block (a := ⟨b, off + k, none⟩) e).trans (hc k hk)⟩
/-- append of a slice that lies onto a row of the call's own: where the new one lies. -/
theorem append_bytes {P : Program} {w : World} (t ty e : TypeId) (i : TypeInfo) (z : Value) (ht : P.underlying t = some (.slice e)) (hi : P.info? e = some i) (hz : i.zero = some z) (hsize : i.size = 1) (hby : i.bytes = 1) (hzs : z.cells.size = 1)
    (v : Value) (n : Nat) (xs : List Int) (hown : w.ownsRow 0 e 1 v n (cellsOf xs))
    (A : Option Addr) (m c : Nat) (zs : List Int) (hm : zs.length = m) (hc : A = none → c = 0) (hl : Lies w A zs) (hb : n + m ≤ 140737488355328) :
    ∃ v' w', (Builtin.append_ #[t, t] ty #[v, .slice A m c]).run P w = .ok v' w' ∧ w'.ownsRow 0 e 1 v' (n + m) (cellsOf (xs ++ zs)) ∧ w.grownBy w' v.ownBlock ∧ ∀ k, v'.ownBlock = some k → v.ownBlock = some k ∨ (w.heap.size ≤ k ∧ k < w'.heap.size) := by
  subst hm
  rcases A with _ | ad
  · have h0 := hl.nil_ rfl
    have hz0 : zs = [] := List.eq_nil_of_length_eq_zero h0
    subst hz0
    obtain rfl := hc rfl
    exact ⟨v, w, run_append_owned_none (P := P) (w := w) 0 t ty e i 1 ht hi v n (cellsOf xs) hown, by simpa using hown, grown_refl _ _, fun k hk => .inl hk⟩
  · have hsp : ∀ j u, (cellsOf zs)[j]? = some u → w.cell? (ad.add j) = some u := by
      intro j u hj
      obtain ⟨hk, _⟩ := cellsOf_some hj
      obtain ⟨b, off, e', _⟩ := hl (by omega)
      injection e' with e'
      subst e'
      exact Lies.cells hl j u hj
    obtain ⟨v', w', hr, h1, h2, _⟩ := run_append_own (P := P) w 0 t ty e i z 1 1 ht hi hz hsize hby hzs (by omega) v n (cellsOf xs) hown ad zs.length c (cellsOf zs) (by rw [length_cellsOf]; omega) hsp cellsOf_one (by unfold maxLen; omega) (by omega) (Nat.zero_le _)
    refine ⟨v', w', hr, by rw [cellsOf_append]; exact h1, h2, fun k hk => ?_⟩
    have hlt := (h1.lt k hk).2
    have key : v.ownBlock = some k ∨ w.heap.size ≤ k := by
      have hln := length_cellsOf zs
      rcases hown.2 with ⟨rfl, rfl⟩ | ⟨g, cap, cur, rfl, hbg, hg, hnc, hcm, hcs, htake⟩
      · by_cases hm : zs.length = 0
        · obtain rfl := List.eq_nil_of_length_eq_zero hm
          have h2 : (Builtin.append_ #[t, t] ty #[.slice none 0 0, .slice (some ad) 0 c]).run P w = .ok (.slice none 0 0) w := by
            simp [Builtin.append_, run_underlying ht, sizeOf, typeInfo, hi, Builtin.lenOf, Builtin.firstCells, loadCells, loadCellsFrom]
          rw [show ([] : List Int).length = 0 from rfl, h2] at hr
          injection hr with e1 _
          rw [← e1] at hk
          exact .inl hk
        · have h2 := run_append_nil (P := P) w t ty e i z ht hi hz ad zs.length c (cellsOf zs) (by rw [hln, hsize]; omega) hsp (by omega) (by omega) (by rw [hby]; omega)
          rw [h2] at hr
          injection hr with e1 _
          rw [← e1] at hk
          simp [Value.ownBlock] at hk
          exact .inr (by omega)
      · by_cases hroom : n + zs.length ≤ cap
        · have h2 := run_append_room (P := P) w t ty e i ht hi g n cap cur hg ad zs.length c (cellsOf zs) (by rw [hln, hsize]; omega) hsp cellsOf_one hroom (by rw [hln, hcs, hsize]; omega)
          rw [h2] at hr
          injection hr with e1 _
          rw [← e1] at hk
          exact .inl hk
        · have holds : ∀ j u, (cellsOf xs)[j]? = some u → w.cell? ((⟨g, 0, none⟩ : Addr).add j) = some u := hown.cells (g := g) rfl
          have h2 := run_append_grow (P := P) w t ty e i z ht hi hz ⟨g, 0, none⟩ n cap (cellsOf xs) (by rw [hsize]; exact hown.1) holds ad zs.length c (cellsOf zs) (by rw [hln, hsize]; omega) hsp (by omega) (by omega) (growslice_fits (by omega) (by rw [hby]; omega))
          rw [h2] at hr
          injection hr with e1 _
          rw [← e1] at hk
          simp [Value.ownBlock] at hk
          exact .inr (by omega)
    exact key.imp id fun h => ⟨h, hlt⟩
theorem wpList_append_full {P : Program} {w : World} {ops : Array Oper} {rest : List Oper} {o : Oper} {a : Act} {Q : Exit → Act → World → Prop} (hgd : o.guard = none) (s x : Operand) (t : TypeId)
    (ho : o.op = .call { callee := .builtin .append, args := #[s, x], argTypes := #[t, t] }) (v : Value) (A : Option Addr) (m c : Nat) (hs : a.eval s = v) (hx : a.eval x = .slice A m c)
    (X : Value → World → Prop) (hr : ∀ ty, ∃ v' w', (Builtin.append_ #[t, t] ty #[v, .slice A m c]).run P w = .ok v' w' ∧ X v' w')
    (h : ∀ v' w', X v' w' → wpList P ops Q rest (a.put o.dst v') w') : wpList P ops Q (o :: rest) a w := by
  refine wpList_plain hgd fun K' hK' => ?_
  obtain ⟨v', w', hrun, hX⟩ := hr o.type
  unfold Oper.wp execOp
  simp only [ho, resolve, invoke, builtin, Sem.run_bind, Sem.run_pure, Result.andThen_ok, List.map_toArray, List.map_cons, List.map_nil, hs, hx, hrun]
  exact hK' _ _ (h v' w' hX)
end Go.Proofs.Ytllgjbkmemheoaa
