/- What the law on twins holds on to. No condition. -/
import Derived.Test.YtllgjbkmemheoaaTwo
import Derived.Test.YtllgjbkmemheoaaKeep
namespace Go.Proofs.Ytllgjbkmemheoaa
open Go.RowKit Go.Maps
theorem len_put (f : Fl) : ∀ l : List Fl, (putF f l).length ≤ l.length + 1
  | [] => Nat.le_refl _
  | x :: l => by
    have := len_put f l
    unfold putF
    split
    · simp
    · split <;> simp <;> omega
theorem spent_len (d : DS) : d.spent.l.length = d.l.length := by rw [spent_l]
section
variable (d : DS) (nm tn : ByteArray) (p : List Int)
theorem len_app : (appS d nm p).l.length ≤ d.l.length + 1 := by
  have h := fun f => len_put f d.l
  have hs := spent_len d
  unfold appS
  split
  · omega
  · split
    · omega
    · split
      · omega
      · split
        · omega
        · exact h _
theorem len_syn : (synS d nm).l.length ≤ d.l.length + 1 := by
  have h := fun f => len_put f d.l
  have hs := spent_len d
  unfold synS
  split
  · omega
  · split
    · omega
    · split
      · omega
      · exact h _
theorem len_ren : (renS d nm tn).l.length ≤ d.l.length + 1 := by
  have h := fun f => len_put f (delF nm d.l)
  have h2 : (delF nm d.l).length ≤ d.l.length := List.length_filter_le _ _
  have hs := spent_len d
  unfold renS
  split
  · omega
  · split
    · omega
    · split
      · omega
      · split
        · omega
        · exact Nat.le_trans (h _) (by omega)
theorem len_rem : (remS d nm).l.length ≤ d.l.length + 1 := by
  have h2 : (delF nm d.l).length ≤ d.l.length := List.length_filter_le _ _
  have hs := spent_len d
  unfold remS
  split
  · omega
  · split
    · omega
    · split
      · omega
      · exact Nat.le_succ_of_le h2
theorem len_cut (n : Int) : (cutS d nm n).l.length ≤ d.l.length + 1 := by
  have h := fun f => len_put f d.l
  have hs := spent_len d
  unfold cutS
  split
  · omega
  · split
    · omega
    · split
      · omega
      · split
        · omega
        · exact h _
end
/-- What lay before, and the round's call. -/
def Xb (W : World) (gb : Nat) : Nat → Prop := plus (fun k => k < W.heap.size) (some ⟨gb, 0, none⟩)
def askRow (x : As) : Array Value := #[.int .i64 x.k, .int .i64 x.n, .string x.nm, .string x.tn, .slice x.d.A x.d.n x.d.c, .slice x.p.A x.p.n x.p.c]
/-- Two disks, the round's call, a slice of the call's own. -/
structure Rt (W w : World) (g1 : Nat) (d1 : DS) (g2 : Nat) (d2 : DS) (gb : Nat) (x : As) (A : Option Addr) (n c : Nat) (ys : List Int) : Prop where
  l : Lt W (plus (Xb W gb) A) w g1 d1 g2 d2
  box : Row w gb 41 (askRow x)
  row : w.ownsRow 0 5 1 (.slice A n c) n (cellsOf ys)
  old : ∀ a, A = some a → W.heap.size ≤ a.block
section
variable {W w w' : World} {g1 g2 gb n c : Nat} {d1 d2 d1' : DS} {x : As} {A : Option Addr} {ys : List Int} {nm tn : ByteArray}
theorem row0 {base : Nat} {v : Value} {xs : List Value} (h : w.ownsRow base 5 1 v n xs) : w.ownsRow 0 5 1 v n xs := by
  refine ⟨h.1, ?_⟩
  rcases h.2 with hv | ⟨g, cap, cur, hv, _, rest⟩
  · exact .inl hv
  · exact .inr ⟨g, cap, cur, hv, Nat.zero_le _, rest⟩
theorem Rt.swap (h : Rt W w g1 d1 g2 d2 gb x A n c ys) : Rt W w g2 d2 g1 d1 gb x A n c ys := ⟨h.l.swap, h.box, h.row, h.old⟩
theorem Rt.drew (h : Rt W w g1 d1 g2 d2 gb x A n c ys) : Rt W w.drew g1 d1 g2 d2 gb x A n c ys := ⟨h.l.below (kept_drewN (kept_refl w) 1), h.box, h.row, h.old⟩
theorem Rt.step (h : Rt W w g1 d1 g2 d2 gb x A n c ys) (hl : Lt W (plus (Xb W gb) A) w' g1 d1' g2 d2) (hk : Kx (plus (Xb W gb) A) w w') : Rt W w' g1 d1' g2 d2 gb x A n c ys := by
  refine ⟨hl, (hk.same (.inl (.inr ⟨_, rfl, rfl⟩)) h.box.lt).trans h.box, ⟨h.row.1, ?_⟩, h.old⟩
  rcases h.row.2 with hv | ⟨q, cap, cur, hv, hb, hh, rest⟩
  · exact .inl hv
  · refine .inr ⟨q, cap, cur, hv, hb, (hk.same (.inr ⟨⟨q, 0, none⟩, ?_, rfl⟩) (Array.getElem?_eq_some_iff.1 hh).1).trans hh, rest⟩
    injection hv
theorem Rt.cells (h : Rt W w g1 d1 g2 d2 gb x A n c ys) : w.cell? ⟨gb, 2, none⟩ = some (.string x.nm) ∧ w.cell? ⟨gb, 3, none⟩ = some (.string x.tn) ∧ w.cell? ⟨gb, 4, none⟩ = some (.slice x.d.A x.d.n x.d.c) := ⟨h.box.cell 2, h.box.cell 3, h.box.cell 4⟩
theorem Rt.c24 (h : Rt W w g1 d1 g2 d2 gb x A n c ys) : w.cell? ⟨gb, 2, none⟩ = some (.string x.nm) ∧ w.cell? ⟨gb, 4, none⟩ = some (.slice x.d.A x.d.n x.d.c) := ⟨h.box.cell 2, h.box.cell 4⟩
theorem Rt.c23 (h : Rt W w g1 d1 g2 d2 gb x A n c ys) : w.cell? ⟨gb, 2, none⟩ = some (.string x.nm) ∧ w.cell? ⟨gb, 3, none⟩ = some (.string x.tn) := ⟨h.box.cell 2, h.box.cell 3⟩
theorem Rt.c2 (h : Rt W w g1 d1 g2 d2 gb x A n c ys) : w.cell? ⟨gb, 2, none⟩ = some (.string x.nm) := h.box.cell 2
theorem Rt.c5 (h : Rt W w g1 d1 g2 d2 gb x A n c ys) : w.cell? ⟨gb, 5, none⟩ = some (.slice x.p.A x.p.n x.p.c) := h.box.cell 5
/-- Append of the own slice, or of the one that came in. -/
theorem Rt.app {zs : List Int} {B : Option Addr} {m e : Nat} (h : Rt W w g1 d1 g2 d2 gb x A n c ys) (ha : Arg (plus (Xb W gb) A) w B m e zs) (hs : nm.size ≤ 140737488351232) (hln : d1.l.length < 9000000000) :
    Calls Try.prog 11 #[.pointer (some ⟨g1, 0, none⟩), .string nm, .slice B m e] w fun e w' => e = .returned (.int .i64 (appE d1 nm zs)) ∧ Rt W w' g2 d2 g1 (appS d1 nm zs) gb x A n c ys :=
  (h.l.app ha hs hln).mono fun _ _ ⟨h1, h2, h3⟩ => ⟨h1, (h.step h2 h3).swap⟩
theorem Rt.own (h : Rt W w g1 d1 g2 d2 gb x A n c ys) (ho : Octets ys) (hlen : ys.length = n) : Arg (plus (Xb W gb) A) w A n c ys :=
  ⟨hlen, Lies.of_own h.row, inX_plus _ A ys, ho, fun e => by
    rcases h.row.2 with ⟨hv, _⟩ | ⟨q, cap, cur, hv, _⟩
    · injection hv
    · injection hv with e1; rw [e] at e1; cases e1⟩
theorem Rt.came {B : Option Addr} {m e : Nat} {zs : List Int} (h : Rt W w g1 d1 g2 d2 gb x A n c ys) (hs : SliceIn W B m e zs) : Arg (plus (Xb W gb) A) w B m e zs := ⟨hs.len, hs.lies.below h.l.low, hs.inX h.l.xs, hs.oct, hs.nil⟩
theorem Rt.syn (h : Rt W w g1 d1 g2 d2 gb x A n c ys) (hs : nm.size ≤ 140737488351232) :
    Calls Try.prog 12 #[.pointer (some ⟨g1, 0, none⟩), .string nm] w fun e w' => e = .returned (.int .i64 (synE d1 nm)) ∧ Rt W w' g2 d2 g1 (synS d1 nm) gb x A n c ys :=
  (h.l.syn hs).mono fun _ _ ⟨h1, h2, h3⟩ => ⟨h1, (h.step h2 h3).swap⟩
theorem Rt.ren (h : Rt W w g1 d1 g2 d2 gb x A n c ys) (hs : nm.size ≤ 140737488351232) (ht : tn.size ≤ 140737488351232) (hln : d1.l.length < 9000000000) :
    Calls Try.prog 21 #[.pointer (some ⟨g1, 0, none⟩), .string nm, .string tn] w fun e w' => e = .returned (.int .i64 (renE d1 nm tn)) ∧ Rt W w' g2 d2 g1 (renS d1 nm tn) gb x A n c ys :=
  (h.l.ren hs ht hln).mono fun _ _ ⟨h1, h2, h3⟩ => ⟨h1, (h.step h2 h3).swap⟩
theorem Rt.cra {B : Option Addr} {m e : Nat} {ps : List Int} (h : Rt W w g1 d1 g2 d2 gb x A n c ys) (h3 : IntsIn W B m e ps) (hn : m ≤ 30) (hl : d1.l.length ≤ 1000000) :
    Calls Try.prog 13 #[.pointer (some ⟨g1, 0, none⟩), .slice B m e] w fun e w' => e = .returned (.tuple #[]) ∧ Rt W w' g2 d2 g1 (craS d1 ps) gb x A n c ys :=
  (h.l.cra h3 hn hl).mono fun _ _ ⟨h1, h2, h3⟩ => ⟨h1, (h.step h2 h3).swap⟩
theorem Rt.drop (h : Rt W w g1 d1 g2 d2 gb x A n c ys) : Lt W (fun k => k < W.heap.size) w g1 d1 g2 d2 := ⟨h.l.low, h.l.two.less fun _ hk => .inl (.inl hk), fun _ hk => hk⟩
theorem Rt.dropA (h : Rt W w g1 d1 g2 d2 gb x A n c ys) : Lt W (Xb W gb) w g1 d1 g2 d2 := ⟨h.l.low, h.l.two.less fun _ hk => .inl hk, fun _ hk => .inl hk⟩
/-- What is read, in memory of its own. -/
def RtR (W : World) (g1 : Nat) (d1 : DS) (g2 : Nat) (d2 : DS) (gb : Nat) (x : As) (e : Ending) (w' : World) : Prop :=
  ∃ A m c ys t, e = .returned (.tuple #[.slice A m c, .bool t]) ∧ Rt W w' g1 d1 g2 d2 gb x A m c ys ∧ ys.length = m ∧ m ≤ 1048576
theorem dat_len {d : DS} (h : DOk d) (nm : ByteArray) : (datO (find nm d.l)).length ≤ 1048576 := by
  cases hf : find nm d.l with
  | none => simp [datO]
  | some f => exact flen h (find_mem hf).1
theorem Rt.read (h : Rt W w g1 d1 g2 d2 gb x A n c ys) (hs : nm.size ≤ 140737488351232) :
    Calls Try.prog 14 #[.pointer (some ⟨g1, 0, none⟩), .string nm] w (RtR W g1 d1 g2 d2 gb x) :=
  (read_q h.l.two.one (by unfold maxLen; omega)).mono fun _ _ ⟨B, e, h1, h2, h3⟩ =>
    ⟨B, _, e, datO (find nm d1.l), _, h1, ⟨h.dropA.plus h2 h3, h.box.below h3 h.box.lt, row0 h2, fun a ha => Nat.le_trans h.l.low.size (h2.lt a.block (by rw [ha]; rfl)).1⟩, rfl, dat_len h.l.two.one.ok nm⟩
/-- One byte of the own slice turns. -/
theorem Rt.turn {b k : Nat} (h : Rt W w g1 d1 g2 d2 gb x (some ⟨b, 0, none⟩) n c ys) (v : Int) : Rt W (w.setCell ⟨b, k, none⟩ (.int .u8 v)) g1 d1 g2 d2 gb x (some ⟨b, 0, none⟩) n c (ys.set k v) := by
  have hne : gb ≠ b := fun e => by
    rcases h.row.2 with ⟨hv, _⟩ | ⟨q, cap, cur, hv, _, hh, _⟩
    · cases hv
    · injection hv with e1; injection e1 with e1; injection e1 with e1
      have hb := h.box
      unfold Row at hb
      rw [e, e1] at hb
      exact kind_ne hb hh (by decide) rfl
  refine ⟨h.l.turned (.inr ⟨_, rfl, rfl⟩) (h.old _ rfl) k _, ?_, ?_, h.old⟩
  · exact h.box.same (Below.heap_setCell w ⟨b, k, none⟩ _ gb hne)
  · have := (h.row.stored k (.int .u8 v)).1
    unfold cellsOf at this ⊢
    rw [List.map_set]; exact this
theorem Rt.at_ {k : Nat} (h : Rt W w g1 d1 g2 d2 gb x A n c ys) (hlen : ys.length = n) (hk : k < n) : ∃ b, A = some ⟨b, 0, none⟩ ∧ w.cell? ⟨b, k, none⟩ = some (.int .u8 (ix ys k)) ∧ w.frozen? ⟨b, k, none⟩ = false := by
  rcases h.row.2 with ⟨_, h0⟩ | ⟨q, cap, cur, hv, hb, hh, rest⟩
  · omega
  · injection hv with e1 _ e3
    subst e1 e3
    refine ⟨q, rfl, ?_, h.row.frozenAt k⟩
    rw [h.row.cellAt k (by omega), cellsOf_at ys (by omega)]
/-- The round's own slice, made of what came in. -/
theorem Rt.made {w1 : World} {v : Value} {zs : List Int} {n : Nat} (h : Lt W (Xb W gb) w1 g1 d1 g2 d2) (hb : Row w1 gb 41 (askRow x)) (hbl : Below w1.heap.size w1 w) (ho : w.ownsRow w1.heap.size 5 1 v n (cellsOf zs)) : ∃ A c, v = .slice A n c ∧ Rt W w g1 d1 g2 d2 gb x A n c zs := by
  obtain ⟨A, c, rfl, _⟩ := own_shape ho
  exact ⟨A, c, rfl, ⟨h.plus ho hbl, hb.below hbl hb.lt, row0 ho, fun a ha => Nat.le_trans h.low.size (ho.lt a.block (by rw [ha]; rfl)).1⟩⟩
/-- The round's call, in a block of its own. -/
theorem Lt.boxed (h : Lt W (fun k => k < W.heap.size) w g1 d1 g2 d2) (x : As) : Lt W (Xb W w.heap.size) (w.alloc (.cells (askRow x) 41)) g1 d1 g2 d2 ∧ Row (w.alloc (.cells (askRow x) 41)) w.heap.size 41 (askRow x) :=
  ⟨⟨kept_alloc h.low _, h.two.more (kept_alloc (kept_refl w) _) fun k hk => by
    rcases hk with hk | ⟨a, ha, rfl⟩
    · exact .inl hk
    · injection ha with ha; subst ha; exact .inr ⟨Nat.le_refl _, by simp⟩, fun _ hk => .inl hk⟩, Row.new _ _ _⟩
end
theorem nms_size {d : DS} (h : DOk d) {k : Nat} (hk : k < (nms d.l).length) : (nms d.l)[k].size ≤ 140737488351232 := by
  have hm : (nms d.l)[k] ∈ nms d.l := List.getElem_mem hk
  obtain ⟨f, hf, e⟩ := List.mem_map.1 hm
  have := (name_size (h.nm f hf)).2
  rw [← e]; omega
end Go.Proofs.Ytllgjbkmemheoaa
