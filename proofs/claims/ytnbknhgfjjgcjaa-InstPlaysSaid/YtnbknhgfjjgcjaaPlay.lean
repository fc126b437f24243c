/- Slices of instances that the call itself puts together; one that lies behind a pointer. Conditions: they have room. -/
import Derived.Test.YtnbknhgfjjgcjaaNew
import Derived.Test.YtnbknhgfjjgcjaaColl
import Derived.Deep.AppendLies
import Derived.Laws.OwnMore
namespace Go.Proofs.Ytnbknhgfjjgcjaa
open Go.RowKit Go.Maps
theorem length_cellsP : ∀ l : List (Int × Int), (cellsP l).length = l.length * 2
  | [] => rfl
  | x :: r => by
    have := length_cellsP r
    unfold cellsP at this ⊢
    rw [List.flatMap_cons, List.length_append, this, List.length_cons]
    show 2 + r.length * 2 = _
    omega
theorem cellsP_append (l m : List (Int × Int)) : cellsP (l ++ m) = cellsP l ++ cellsP m := by unfold cellsP; exact List.flatMap_append
theorem cellsP_of : ∀ {l : List (Int × Int)} {k : Nat} {x : Int × Int}, l[k]? = some x → (cellsP l)[k * 2]? = some (.int .i64 x.1) ∧ (cellsP l)[k * 2 + 1]? = some (.int .i64 x.2)
  | [], k, x, h => by simp at h
  | y :: r, 0, x, h => by
    simp at h; subst h
    exact ⟨rfl, rfl⟩
  | y :: r, k + 1, x, h => by
    have := cellsP_of (l := r) (k := k) (x := x) (by simpa using h)
    have e : cellsP (y :: r) = .int .i64 y.1 :: .int .i64 y.2 :: cellsP r := rfl
    rw [e, show (k + 1) * 2 = k * 2 + 1 + 1 by omega, List.getElem?_cons_succ, List.getElem?_cons_succ, List.getElem?_cons_succ, List.getElem?_cons_succ]
    exact this
theorem cellsP_get {l : List (Int × Int)} {j : Nat} {u : Value} (h : (cellsP l)[j]? = some u) : ∃ k x, l[k]? = some x ∧ ((j = k * 2 ∧ u = .int .i64 x.1) ∨ (j = k * 2 + 1 ∧ u = .int .i64 x.2)) := by
  have hj : j < l.length * 2 := by
    rcases Nat.lt_or_ge j (cellsP l).length with h1 | h1
    · rwa [length_cellsP] at h1
    · rw [List.getElem?_eq_none h1] at h; cases h
  have hx : l[j / 2]? = some l[j / 2] := List.getElem?_eq_getElem (by omega)
  obtain ⟨h0, h1⟩ := cellsP_of hx
  refine ⟨j / 2, _, hx, ?_⟩
  rcases Nat.mod_two_eq_zero_or_one j with e | e
  · left
    have e2 : j / 2 * 2 = j := by omega
    rw [e2, h] at h0
    exact ⟨e2.symm, Option.some.inj h0⟩
  · right
    have e2 : j / 2 * 2 + 1 = j := by omega
    rw [e2, h] at h1
    exact ⟨e2.symm, Option.some.inj h1⟩
theorem cellsP_one {l : List (Int × Int)} : ∀ u ∈ cellsP l, u.oneCell' = true := fun u hu => by
  obtain ⟨j, hj⟩ := List.mem_iff_getElem?.1 hu
  obtain ⟨k, x, _, h | h⟩ := cellsP_get hj
  · rw [h.2]; rfl
  · rw [h.2]; rfl
/-- What an own slice holds lies. -/
theorem ins_own {w : World} {base : Nat} {e : TypeId} {A : Option Addr} {n c : Nat} {l : List (Int × Int)} (h : w.ownsRow base e 2 (.slice A n c) n (cellsP l)) : Ins w A l ∧ l.length = n := by
  have hn : l.length = n := by have := h.1; rw [length_cellsP] at this; omega
  refine ⟨fun hp => ?_, hn⟩
  rcases h.2 with ⟨e, h0⟩ | ⟨g, cap, cur, e, hg, hh, q1, q2, q3, q4⟩
  · omega
  · injection e with e1 e2 e3
    subst e1
    refine ⟨g, 0, rfl, (Array.getElem?_eq_some_iff.1 hh).1, fun k x hk => ?_⟩
    obtain ⟨h0, h1⟩ := cellsP_of hk
    have hl : k < l.length := by
      rcases Nat.lt_or_ge k l.length with h1 | h1
      · exact h1
      · rw [List.getElem?_eq_none h1] at hk; cases hk
    rw [← q4, List.getElem?_take_of_lt (by omega), Array.getElem?_toList] at h0 h1
    refine ⟨?_, ?_⟩
    · rw [cell_of_row w g _ cur _ (0, 0) hh, Nat.zero_add]; exact h0
    · rw [cell_of_row w g _ cur _ (0, 0) hh, Nat.zero_add]; exact h1
theorem Ins.cells {w : World} {b off : Nat} {l : List (Int × Int)} (h : Ins w (some ⟨b, off, none⟩) l) : ∀ j u, (cellsP l)[j]? = some u → w.cell? ((⟨b, off, none⟩ : Addr).add j) = some u := fun j u hj => by
  obtain ⟨k, x, hk, hju⟩ := cellsP_get hj
  obtain ⟨b', off', e, _, h0, h1⟩ := h.at_ hk
  injection e with e
  injection e with e1 e2 _
  subst e1 e2
  rw [Go.WideShapes.add_plain]
  rcases hju with ⟨rfl, rfl⟩ | ⟨rfl, rfl⟩
  · exact h0
  · exact h1
theorem run_append_ins {P : Program} {w : World} (base : Nat) (t ty e : TypeId) (i : TypeInfo) (z : Value) (ht : P.underlying t = some (.slice e)) (hi : P.info? e = some i) (hz : i.zero = some z) (hsize : i.size = 2) (hby : i.bytes = 16) (hzs : z.cells.size = 2)
    (v : Value) (n : Nat) (xs : List (Int × Int)) (hown : w.ownsRow base e 2 v n (cellsP xs)) (hv : v ≠ .slice none 0 0)
    (A : Option Addr) (m c : Nat) (zs : List (Int × Int)) (hm : zs.length = m) (hc : A = none → c = 0) (hl : Ins w A zs) (hb : n + m ≤ 1000000000) (hbase : base ≤ w.heap.size) :
    ∃ g cap w', (Builtin.append_ #[t, t] ty #[v, .slice A m c]).run P w = .ok (.slice (some ⟨g, 0, none⟩) (n + m) cap) w' ∧ w'.ownsRow base e 2 (.slice (some ⟨g, 0, none⟩) (n + m) cap) (n + m) (cellsP (xs ++ zs)) ∧ w.grownBy w' v.ownBlock ∧ n + m ≤ cap := by
  subst hm
  have hform : ∀ (v' : Value) (w' : World) (k : Nat) (ys : List Value), w'.ownsRow base e 2 v' k ys → v' ≠ .slice none 0 0 → ∃ g cap, v' = .slice (some ⟨g, 0, none⟩) k cap ∧ k ≤ cap := fun v' w' k ys h hne => by
    rcases h.2 with ⟨h1, _⟩ | ⟨g, cap, cur, h1, _, _, h2, _⟩
    · exact absurd h1 hne
    · exact ⟨g, cap, h1, h2⟩
  rcases A with _ | ad
  · have hz0 : zs = [] := by
      rcases zs with _ | ⟨x, r⟩
      · rfl
      · obtain ⟨_, _, e, _⟩ := hl (by simp)
        cases e
    subst hz0
    obtain rfl := hc rfl
    obtain ⟨g, cap, rfl, hcap⟩ := hform _ _ _ _ hown hv
    exact ⟨g, cap, w, run_append_owned_none (P := P) (w := w) base t ty e i 2 ht hi _ n (cellsP xs) hown, by simpa using hown, grown_refl _ _, hcap⟩
  · have hsp : ∀ j u, (cellsP zs)[j]? = some u → w.cell? (ad.add j) = some u := fun j u hj => by
      rcases zs with _ | ⟨x, r⟩
      · cases hj
      · obtain ⟨b, off, e, _⟩ := hl (by simp)
        injection e with e
        subst e
        exact hl.cells j u hj
    obtain ⟨v', w', hr, h1, h2, h3⟩ := run_append_own (P := P) w base t ty e i z 2 16 ht hi hz hsize hby hzs (by omega) v n (cellsP xs) hown ad zs.length c (cellsP zs) (length_cellsP zs) hsp cellsP_one (by unfold maxLen; omega) (by omega) hbase
    obtain ⟨g, cap, rfl, hcap⟩ := hform _ _ _ _ h1 (fun h => hv (h3.1 h).1)
    exact ⟨g, cap, w', hr, by rw [cellsP_append]; exact h1, h2, hcap⟩
theorem step_append_ins {P : Program} {w : World} {ops : Array Oper} {o : Oper} {a : Act} {K : Act → World → Prop} {Q : Exit → Act → World → Prop} {E : Prop} (hgd : o.guard = none) (s x : Operand) (t : TypeId)
    (ho : o.op = .call { callee := .builtin .append, args := #[s, x], argTypes := #[t, t] })
    (base : Nat) (e : TypeId) (i : TypeInfo) (z : Value) (ht : P.underlying t = some (.slice e)) (hi : P.info? e = some i) (hz : i.zero = some z) (hsize : i.size = 2) (hby : i.bytes = 16) (hzs : z.cells.size = 2)
    (v : Value) (n : Nat) (xs : List (Int × Int)) (hs : a.eval s = v) (hown : w.ownsRow base e 2 v n (cellsP xs)) (hv : v ≠ .slice none 0 0)
    (A : Option Addr) (m c : Nat) (zs : List (Int × Int)) (hx : a.eval x = .slice A m c) (hm : zs.length = m) (hc : A = none → c = 0) (hl : Ins w A zs) (hb : n + m ≤ 1000000000) (hbase : base ≤ w.heap.size)
    (h : ∀ g cap w', w'.ownsRow base e 2 (.slice (some ⟨g, 0, none⟩) (n + m) cap) (n + m) (cellsP (xs ++ zs)) → w.grownBy w' v.ownBlock → n + m ≤ cap → K (a.put o.dst (.slice (some ⟨g, 0, none⟩) (n + m) cap)) w') :
    if Region.wanted o (yielded ops a.tmps) = true then Oper.wp P o a w K Q else E := by
  have hw : Region.wanted o (yielded ops a.tmps) = true := by simp [Region.wanted, hgd]
  rw [if_pos hw]
  obtain ⟨g, cap, w', hr, h2, h3, h4⟩ := run_append_ins (P := P) (w := w) base t o.type e i z ht hi hz hsize hby hzs v n xs hown hv A m c zs hm hc hl hb hbase
  unfold Oper.wp execOp
  simp only [ho, resolve, invoke, builtin, Sem.run_bind, Sem.run_pure, Result.andThen_ok, List.map_toArray, List.map_cons, List.map_nil, hs, hx, hr]
  exact h g cap w' h2 h3 h4
/-- In w block q is a slice that holds the instances l; no block of it is d. -/
structure Wt (w : World) (q d : Nat) (l : List (Int × Int)) : Prop where
  holds : ∃ A c, Row w q 29 #[.slice A l.length c] ∧ Ins w A l ∧ (A = none → c = 0) ∧ l.length ≤ c ∧ ∀ a, A = some a → a.block ≠ q ∧ a.block ≠ d
  qd : q ≠ d
theorem Ins.grown {w w' : World} {A : Option Addr} {l : List (Int × Int)} {row : Option Nat} (h : Ins w A l) (hg : w.grownBy w' row) (hne : ∀ a, A = some a → some a.block ≠ row) : Ins w' A l := fun hn => by
  obtain ⟨b, off, e, hlt, hc⟩ := h hn
  have hb := hne _ e
  exact ⟨b, off, e, Nat.lt_of_lt_of_le hlt hg.size, fun k x hk => ⟨(hg.cell_far ⟨b, off + k * 2, none⟩ hlt hb).trans (hc k x hk).1, (hg.cell_far ⟨b, off + k * 2 + 1, none⟩ hlt hb).trans (hc k x hk).2⟩⟩
section
variable {w w' : World} {q d : Nat} {l : List (Int × Int)}
theorem Wt.grown {row : Option Nat} (h : Wt w q d l) (hg : w.grownBy w' row) (h1 : some q ≠ row) (h2 : row = none ∨ row = some d) : Wt w' q d l := by
  obtain ⟨A, c, hr, hi, hc, hn, ha⟩ := h.holds
  refine ⟨⟨A, c, hr.grown hg h1, hi.grown hg fun a e => ?_, hc, hn, ha⟩, h.qd⟩
  rcases h2 with rfl | rfl
  · simp
  · exact fun k => (ha a e).2 (Option.some.inj k)
theorem Wt.below (h : Wt w q d l) (hb : Below w.heap.size w w') : Wt w' q d l := h.grown (grown_below hb) (by simp) (.inl rfl)
theorem Wt.lt (h : Wt w q d l) : q < w.heap.size := by obtain ⟨A, c, hr, _⟩ := h.holds; exact hr.lt
end
/-- The set behind g, d with the instances L; the slice behind q with the instances M; nothing of W has turned. -/
structure St (W w : World) (g d q : Nat) (L M : List (Int × Int)) : Prop where
  set : Set w g d L
  wt : Wt w q d M
  low : Below W.heap.size W w
  gW : W.heap.size ≤ g
  dW : W.heap.size ≤ d
  qW : W.heap.size ≤ q
  qg : q ≠ g
section
variable {W w w' : World} {g d q : Nat} {L M : List (Int × Int)}
theorem St.below (h : St W w g d q L M) (hb : Below w.heap.size w w') : St W w' g d q L M := ⟨h.set.below hb, h.wt.below hb, h.low.trans (hb.mono h.low.size), h.gW, h.dW, h.qW, h.qg⟩
theorem St.alloc (h : St W w g d q L M) (o : Obj) : St W (w.alloc o) g d q L M := h.below ((Below.refl _ _).alloc (Nat.le_refl _) o)
theorem St.drewN (h : St W w g d q L M) (n : Nat) : St W (w.drewN n) g d q L M := h.below ⟨rfl, rfl, rfl, Nat.le_refl _, fun _ _ => rfl⟩
theorem St.drew (h : St W w g d q L M) : St W w.drew g d q L M := h.below ⟨rfl, rfl, rfl, Nat.le_refl _, fun _ _ => rfl⟩
theorem St.turn {L' : List (Int × Int)} (h : St W w g d q L M) (hs : Set w' g d L') (hg : w.grownBy w' (some d)) : St W w' g d q L' M :=
  ⟨hs, h.wt.grown hg (fun e => h.wt.qd (Option.some.inj e)) (.inr rfl), h.low.grown hg h.low.size (fun k hk => by cases hk; exact h.dW), h.gW, h.dW, h.qW, h.qg⟩
theorem St.want {M' : List (Int × Int)} (h : St W w g d q L M) (hw : Wt w' q d M') (hg : w.grownBy w' (some q)) : St W w' g d q L M' :=
  ⟨h.set.grown hg (fun e => h.qg (Option.some.inj e).symm) (fun e => h.wt.qd (Option.some.inj e).symm), hw, h.low.grown hg h.low.size (fun k hk => by cases hk; exact h.qW), h.gW, h.dW, h.qW, h.qg⟩
end
end Go.Proofs.Ytnbknhgfjjgcjaa
