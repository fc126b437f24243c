/- What Roomy and Intact come to. Conditions: the slices lie in memory, their lengths have room. -/
import Derived.Test.YtahfpncfkcfogaaGh
import Derived.Deep.DeepCutAuto
import Derived.Laws.CopyOwn
import Derived.Test.YtahfpncfkcfogaaGa
import Derived.Deep.AppendLies
import Derived.Deep.DeepAppendWide
namespace Go.Proofs.Ytahfpncfkcfogaa
set_option maxRecDepth 100000
open Go.RowKit
theorem zeros_cells (n : Nat) : (madeCells #[Value.int .u8 0] n).toList = cellsOf (pad n 0) := by
  rw [toList_madeCells_one]; unfold cellsOf pad; rw [List.map_replicate]
theorem own_block {w : World} {base g n : Nat} {e : TypeId} {xs : List Value} (h : w.ownsRow base e 1 (.slice (some ⟨g, 0, none⟩) n n) n xs) : base ≤ g ∧ n ≤ maxLen ∧ xs.length = n ∧ w.heap[g]? = some (.cells xs.toArray e (0, 0)) := by
  have hl : xs.length = n := by have := h.1; omega
  rcases h.2 with ⟨h0, _⟩ | ⟨g', cap, cur, hv, hb, hh, _, hm, hs, ht⟩
  · cases h0
  · injection hv with h1 _ h3
    injection h1 with h1
    injection h1 with h1
    subst h1 h3
    refine ⟨hb, hm, hl, ?_⟩
    have : xs.toArray = cur := by
      rw [← ht, List.take_of_length_le (by rw [Array.length_toList, hs]; exact Nat.le_refl _)]
    rw [this]; exact hh
theorem block_own {w : World} {base g n : Nat} {e : TypeId} {xs : List Value} (hb : base ≤ g) (hm : n ≤ maxLen) (hl : xs.length = n) (h : w.heap[g]? = some (.cells xs.toArray e (0, 0))) : w.ownsRow base e 1 (.slice (some ⟨g, 0, none⟩) n n) n xs :=
  ⟨by omega, .inr ⟨g, n, xs.toArray, rfl, hb, h, Nat.le_refl _, hm, by simp; omega, by rw [List.take_of_length_le (by simp; omega)]⟩⟩
/-- copy of a slice that lies anywhere to the head of a row of the call's own. -/
theorem wpList_copy_lies {P : Program} {w : World} {ops : Array Oper} {rest : List Oper} {o : Oper} {a : Act} {Q : Exit → Act → World → Prop} (hgd : o.guard = none) (d s : Operand) (t : TypeId)
    (ho : o.op = .call { callee := .builtin .copy, args := #[d, s], argTypes := #[t, t] }) (e : TypeId) (hu : P.underlying t = some (.slice e)) (hsz : (P.info? e).map (·.size) = some 1)
    (base g n : Nat) (xs : List Int) (hd : a.eval d = .slice (some ⟨g, 0, none⟩) n n) (hown : w.ownsRow base e 1 (.slice (some ⟨g, 0, none⟩) n n) n (cellsOf xs))
    (A : Option Addr) (m c : Nat) (zs : List Int) (hs : a.eval s = .slice A m c) (hm : zs.length = m) (hl : Lies w A zs) (hfit : m ≤ n) (w0 : World) (hb : Below base w0 w)
    (h : ∀ w', w'.ownsRow base e 1 (.slice (some ⟨g, 0, none⟩) n n) n (cellsOf (zs ++ xs.drop m)) → Below base w0 w' → wpList P ops Q rest (a.put o.dst (goInt m)) w') : wpList P ops Q (o :: rest) a w := by
  obtain ⟨hbg, hmx, hlen, hblk⟩ := own_block hown
  have hlx : xs.length = n := by rw [length_cellsOf] at hlen; exact hlen
  refine wpList_copy_splice hgd d s t t ho e hu hsz _ A n n m c hd hs g 0 (cellsOf xs) e hblk (cellsOf zs) (by rw [length_cellsOf]; show zs.length = min m n; omega) ?_ (by rw [length_cellsOf, length_cellsOf]; omega) cellsOf_one base w0 hb hbg ?_
  · intro hpos
    rw [length_cellsOf] at hpos
    obtain ⟨b, off, rfl, _⟩ := hl hpos
    exact ⟨rfl, _, rfl, fun j v hj => Lies.cells hl j v hj⟩
  · intro w' hw hb'
    have hsp : splice (cellsOf xs) 0 (cellsOf zs) = cellsOf (zs ++ xs.drop m) := by
      unfold splice
      rw [cellsOf_append, List.take_zero, List.nil_append, length_cellsOf, Nat.zero_add, hm]
      unfold cellsOf
      rw [List.map_drop]
    have hw' := hw.out
    rw [hsp] at hw'
    rw [length_cellsOf, hm]
    exact h w' (block_own hbg hmx (by rw [length_cellsOf, List.length_append, List.length_drop]; omega) hw') hb'
theorem fill_step (zs : List Int) (z : Int) (j : Nat) (h : j < 80) : (zs ++ pad j z ++ pad (80 - j) 0).set (zs.length + j) z = zs ++ pad (j + 1) z ++ pad (80 - (j + 1)) 0 := by
  unfold pad
  have e : 80 - j = (80 - (j + 1)) + 1 := by omega
  rw [e, List.replicate_succ, List.set_append_right _ _ (by simp), List.replicate_succ']
  have e2 : zs.length + j - (zs ++ List.replicate j z).length = 0 := by simp
  rw [e2, List.set_cons_zero]
  simp
set_option maxHeartbeats 1000000 in
theorem roomy_any (A : Option Addr) (n c : Nat) (zs : List Int) (z : Int) (w : World) (hn : zs.length = n) (hz : Lies w A zs) (ln : n ≤ 140737488355240) :
    Calls Try.prog 29 #[.slice A n c, .int .u8 z] w fun e w' =>
      e = .returned (.slice (some ⟨w.heap.size, 0, none⟩) (n + 80) (n + 80)) ∧
      w'.ownsRow w.heap.size 5 1 (.slice (some ⟨w.heap.size, 0, none⟩) (n + 80) (n + 80)) (n + 80) (cellsOf (zs ++ pad 80 z)) ∧ Below w.heap.size w w' := by
  subst hn
  obtain ⟨i0, hi, hz0, hz1, hz2⟩ := info_parts Try.info5
  have hsz := hide (show (Try.prog.info? 5).map (·.size) = some 1 by rw [hi]; exact congrArg some hz1)
  go_enter Try.func29, Try.ntmps29
  go_wp2_with (at_make; refine wpList_make_full _ rfl _ _ 49 rfl w.heap.size 5 i0 (.int .u8 0) 1 Try.underlying49 hi hz0 hz1 _ _ _ _ (zs.length + 80) rfl rfl (by omega) (by omega) ?b2 ?b3 (Nat.le_refl _) ?_)
  case b2 => rw [hz2]; omega
  case b3 => unfold maxLen; omega
  intro w0 hown0 hgrow0
  have hb0 : Below w.heap.size w w0 := (Below.refl _ _).grown hgrow0 (Nat.le_refl _) (fun k h => by cases h)
  rw [zeros_cells] at hown0
  have hz' := hide (hz.below hb0)
  go_wp2_with (with_reducible refine wpList_copy_lies rfl (.tmp 11) (.tmp 12) 49 rfl 5 Try.underlying49 hsz.out w.heap.size w.heap.size (zs.length + 80) _ rfl hown0 A zs.length c zs rfl rfl hz'.out (by omega) w hb0 ?_)
  intro w1 hown1 hb1
  rw [pad_drop] at hown1
  clear hown0 hgrow0 hb0 hz'
  go_wp2
  go_loopw [6] (fun i wr => ∃ j : Nat, j ≤ 80 ∧ i = .int .i64 (zs.length + j : Nat) ∧ wr.ownsRow w.heap.size 5 1 (.slice (some ⟨w.heap.size, 0, none⟩) (zs.length + 80) (zs.length + 80)) (zs.length + 80) (cellsOf (zs ++ pad j z ++ pad (80 - j) 0)) ∧ Below w.heap.size w wr) (fun i _ => zs.length + 80 - (intOf i).toNat)
  case atStart => exact ⟨0, by omega, rfl, by simpa [pad] using hown1, hb1⟩
  case round =>
    clear hown1 hb1
    obtain ⟨j, hj, rfl, hown, hb⟩ := hrel
    by_cases hlt : j < 80
    · have hcell : wr.cell? ⟨w.heap.size, zs.length + j, none⟩ = some (.int .u8 (ix (zs ++ pad j z ++ pad (80 - j) 0) (zs.length + j))) := by
        rw [hown.cellAt _ (by omega), cellsOf_at _ (by simp [length_pad]; omega)]
      have hfr := hown.frozenAt (zs.length + j)
      have hst := (hown.stored (zs.length + j) (.int .u8 z)).1
      have hst' : (wr.setCell ⟨w.heap.size, zs.length + j, none⟩ (.int .u8 z)).ownsRow w.heap.size 5 1 (.slice (some ⟨w.heap.size, 0, none⟩) (zs.length + 80) (zs.length + 80)) (zs.length + 80) (cellsOf (zs ++ pad (j + 1) z ++ pad (80 - (j + 1)) 0)) := by
        rw [← fill_step zs z j hlt]
        unfold cellsOf at hst ⊢
        rw [List.map_set]; exact hst
      have HST := hide hst'
      have HB := hide (hb.setCell (p := ⟨w.heap.size, zs.length + j, none⟩) (Nat.le_refl _) (.int .u8 z))
      clear hst hst' hown hb
      go_wp2
      go_roundw
      case rel => exact ⟨j + 1, by omega, by go_num, HST.out, HB.out⟩
      case measure => simp [intOf]; omega
    · obtain rfl : j = 80 := by omega
      go_wp2
      go_ret
      exact ⟨rfl, by simpa [pad] using hown, hb⟩
set_option maxHeartbeats 1000000 in
theorem intact_any (A B : Option Addr) (n m c d : Nat) (zs ys : List Int) (z : Int) (w : World) (hn : zs.length = n) (hm : ys.length = m) (hz : Lies w A zs) (hy : Lies w B ys) (ln : n ≤ c) (lc : c ≤ 4611686018427387904) (lm : m ≤ 4611686018427387904)
    (he : zs = ys ++ pad 80 z) :
    Calls Try.prog 32 #[.slice A n c, .slice B m d, .int .u8 z] w fun e w' => e = .returned (.bool true) ∧ ∃ q, w' = w.drewN q := by
  subst hn hm
  have hl : zs.length = ys.length + 80 := by rw [he]; simp [length_pad]
  have ht : zs.take ys.length = ys := by rw [he]; simp
  have hzt0 := hz.take ys.length
  rw [ht] at hzt0
  have hzt := hide hzt0
  have hx0 : ∀ k, ys.length ≤ k → k < zs.length → ix zs k = z := by
    intro k h1 h2
    rw [he]
    exact ix_pad_right ys 80 z h1 (by omega)
  have hx := hide hx0
  have hb : ((zs.length : Int) != (ys.length : Int) + 80) = false := by rw [hl]; simp
  have l1 : zs.length ≤ ys.length + 80 := by omega
  have l2 : ys.length + 80 ≤ zs.length := by omega
  clear hl he ht hzt0 hx0
  go_enter Try.func32, Try.ntmps32
  go_wp2_with (go_at_call 23; refine (same_any _ _ _ _ _ _ ys ys _ rfl rfl hzt.out hy (by omega) lm).mono ?_; rintro e w' ⟨rfl, q, rfl⟩)
  go_loopw [7] (fun i wr => ∃ k q : Nat, ys.length ≤ k ∧ k ≤ zs.length ∧ i = .int .i64 k ∧ wr = w.drewN q) (fun i _ => zs.length - (intOf i).toNat)
  case atStart => exact ⟨ys.length, _, by omega, by omega, rfl, rfl⟩
  case round =>
    obtain ⟨k, q, hk0, hk, rfl, rfl⟩ := hrel
    by_cases hlt : k < zs.length
    · obtain ⟨b1, o1, rfl, _, hc1⟩ := hz.at_ hlt
      have hbe : ((ix zs k : Int) != z) = false := by rw [hx.out k hk0 hlt]; simp
      have Hz := hide hz; clear hz
      go_wp2
      go_roundw
      case rel => exact ⟨k + 1, _, by omega, by omega, by go_num, rfl⟩
      case measure => simp [intOf]; omega
    · go_wp2
      go_ret
      exact ⟨rfl, _, rfl⟩
end Go.Proofs.Ytahfpncfkcfogaa
/- append of a slice of bytes that lies anywhere, nil or not, onto a row of the call's own, as one step of a region that draws its order. No condition: nothing here speaks of one function. -/
namespace Go.Proofs.Ytahfpncfkcfogaa
open Go.RowKit
theorem run_append_lies {P : Program} {w : World} (base : Nat) (t ty e : TypeId) (i : TypeInfo) (z : Value) (ht : P.underlying t = some (.slice e)) (hi : P.info? e = some i) (hz : i.zero = some z) (hsize : i.size = 1) (hby : i.bytes = 1) (hzs : z.cells.size = 1)
    (v : Value) (n : Nat) (xs : List Int) (hown : w.ownsRow base e 1 v n (cellsOf xs))
    (A : Option Addr) (m c : Nat) (zs : List Int) (hm : zs.length = m) (hc : A = none → c = 0) (hl : Lies w A zs) (hb : n + m ≤ 200000000000000) (hbase : base ≤ w.heap.size) :
    ∃ v' w', (Builtin.append_ #[t, t] ty #[v, .slice A m c]).run P w = .ok v' w' ∧ w'.ownsRow base e 1 v' (n + m) (cellsOf (xs ++ zs)) ∧ Below base w w' := by
  subst hm
  rcases A with _ | ad
  · have h0 := hl.nil_ rfl
    have hz0 : zs = [] := List.eq_nil_of_length_eq_zero h0
    subst hz0
    obtain rfl := hc rfl
    exact ⟨v, w, run_append_owned_none (P := P) (w := w) base t ty e i 1 ht hi v n (cellsOf xs) hown, by simpa using hown, Below.refl _ _⟩
  · obtain ⟨v', w', hr, h1, h2, _⟩ := run_append_own_wide (P := P) w base t ty e i z 1 1 ht hi hz hsize hby hzs (by omega) v n (cellsOf xs) hown ad zs.length c (cellsOf zs) (by rw [length_cellsOf]; omega) (by
      intro j u hj
      obtain ⟨hk, _⟩ := cellsOf_some hj
      obtain ⟨b, off, e', _⟩ := hl (by omega)
      injection e' with e'
      subst e'
      exact Lies.cells hl j u hj) cellsOf_one (by unfold maxLen; omega) (by omega) hbase
    exact ⟨v', w', hr, by rw [cellsOf_append]; exact h1, (Below.refl _ _).grown h2 hbase (fun k hk => (hown.lt k hk).1)⟩
theorem step_append_bytes {P : Program} {w : World} {ops : Array Oper} {o : Oper} {a : Act} {K : Act → World → Prop} {Q : Exit → Act → World → Prop} {E : Prop} (hgd : o.guard = none) (s x : Operand) (t : TypeId)
    (ho : o.op = .call { callee := .builtin .append, args := #[s, x], argTypes := #[t, t] })
    (base : Nat) (e : TypeId) (i : TypeInfo) (z : Value) (ht : P.underlying t = some (.slice e)) (hi : P.info? e = some i) (hz : i.zero = some z) (hsize : i.size = 1) (hby : i.bytes = 1) (hzs : z.cells.size = 1)
    (v : Value) (n : Nat) (xs : List Int) (hs : a.eval s = v) (hown : w.ownsRow base e 1 v n (cellsOf xs))
    (A : Option Addr) (m c : Nat) (zs : List Int) (hx : a.eval x = .slice A m c) (hm : zs.length = m) (hc : A = none → c = 0) (hl : Lies w A zs) (hb : n + m ≤ 200000000000000) (hbase : base ≤ w.heap.size)
    (h : ∀ v' w', w'.ownsRow base e 1 v' (n + m) (cellsOf (xs ++ zs)) → Below base w w' → K (a.put o.dst v') w') :
    if Region.wanted o (yielded ops a.tmps) = true then Oper.wp P o a w K Q else E := by
  have hw : Region.wanted o (yielded ops a.tmps) = true := by simp [Region.wanted, hgd]
  rw [if_pos hw]
  obtain ⟨v', w', hr, h2, h3⟩ := run_append_lies (P := P) (w := w) base t o.type e i z ht hi hz hsize hby hzs v n xs hown A m c zs hm hc hl hb hbase
  unfold Oper.wp execOp
  simp only [ho, resolve, invoke, builtin, Sem.run_bind, Sem.run_pure, Result.andThen_ok, List.map_toArray, List.map_cons, List.map_nil, hs, hx, hr]
  exact h v' w' h2 h3
end Go.Proofs.Ytahfpncfkcfogaa
/- The writers, said for their callers: where the answer lies. Conditions: those of their contracts. -/
namespace Go.Proofs.Ytahfpncfkcfogaa
set_option maxRecDepth 100000
open Go.RowKit
/-- A slice of these n bytes, in new memory or nowhere. -/
def Made (w : World) (n : Nat) (zs : List Int) (e : Ending) (w' : World) : Prop :=
  ∃ A c, e = .returned (.slice A n c) ∧ n ≤ c ∧ Lies w' A zs ∧ (A = none → c = 0) ∧ Below w.heap.size w w'
theorem made_of {w w' : World} {n : Nat} {zs : List Int} {e : Ending} (h : ∃ v, e = .returned v ∧ w'.ownsRow w.heap.size 5 1 v n (cellsOf zs) ∧ Below w.heap.size w w') : Made w n zs e w' := by
  obtain ⟨v, he, ho, hb⟩ := h
  obtain ⟨A, c, rfl, hA⟩ : ∃ A c, v = .slice A n c ∧ (A = none → c = 0) := by
    rcases ho.2 with ⟨rfl, rfl⟩ | ⟨g, cap, cur, rfl, _⟩
    · exact ⟨none, 0, rfl, fun _ => rfl⟩
    · exact ⟨_, cap, rfl, fun h => by cases h⟩
  exact ⟨A, c, he, (own_len ho).2, Lies.of_own ho, hA, hb⟩
/-- A flag's byte. -/
def flag7 (f : Bool) : List Int := [if f then 1 else 0]
section
variable {A : Option Addr} {n c : Nat} {zs : List Int} {w : World}
theorem num_use (m : Int) (hn : zs.length = n) (hz : Lies w A zs) (hc : A = none → c = 0) (ln : n ≤ 140737488355310) (m0 : -9223372036854775808 ≤ m) (m1 : m ≤ 9223372036854775807) :
    Calls Try.prog 83 #[.slice A n c, .int .i64 m] w (Made w (n + (num7 m).length) (zs ++ num7 m)) := (num_any A n c zs m w hn hz hc ln m0 m1).mono fun _ _ h => made_of h
theorem text_use (s : ByteArray) (hn : zs.length = n) (hz : Lies w A zs) (hc : A = none → c = 0) (ln : n + s.size ≤ 140737488355310) :
    Calls Try.prog 84 #[.slice A n c, .string s] w (Made w (n + (text7 s).length) (zs ++ text7 s)) := (text_any A n c zs s w hn hz hc ln).mono fun _ _ h => made_of h
theorem flag_use (f : Bool) (hn : zs.length = n) (hz : Lies w A zs) (hc : A = none → c = 0) (ln : n ≤ 140737488355310) :
    Calls Try.prog 85 #[.slice A n c, .bool f] w (Made w (n + 1) (zs ++ flag7 f)) := (flag_any A n c zs f w hn hz hc ln).mono fun _ _ h => made_of h
theorem rnum_use (m : Int) (hn : zs.length = n) (hz : Lies w A zs) (hc : A = none → c = 0) (ln : n ≤ 140737488355310) (m0 : -9223372036854775808 ≤ m) (m1 : m ≤ 9223372036854775807) :
    Calls Try.prog 53 #[.slice A n c, .int .i64 m] w (Made w (n + (num7 m).length) (zs ++ num7 m)) := (rnum_any A n c zs m w hn hz hc ln m0 m1).mono fun _ _ h => made_of h
theorem rtext_use (s : ByteArray) (hn : zs.length = n) (hz : Lies w A zs) (hc : A = none → c = 0) (ln : n + s.size ≤ 140737488355310) :
    Calls Try.prog 54 #[.slice A n c, .string s] w (Made w (n + (text7 s).length) (zs ++ text7 s)) := (rtext_any A n c zs s w hn hz hc ln).mono fun _ _ h => made_of h
theorem rflag_use (f : Bool) (hn : zs.length = n) (hz : Lies w A zs) (hc : A = none → c = 0) (ln : n ≤ 140737488355310) :
    Calls Try.prog 55 #[.slice A n c, .bool f] w (Made w (n + 1) (zs ++ flag7 f)) := (rflag_any A n c zs f w hn hz hc ln).mono fun _ _ h => made_of h
end
theorem num_nil {m : Int} {ys : List Int} {n : Nat} (w : World) (m0 : -9223372036854775808 ≤ m) (m1 : m ≤ 9223372036854775807) (hy : num7 m = ys) (hn : ys.length = n) :
    Calls Try.prog 83 #[.slice none 0 0, .int .i64 m] w (Made w n ys) := by
  subst hy hn
  have h := num_use (zs := []) (n := 0) (c := 0) m rfl (Lies.none_ (w := w) (A := none)) (fun _ => rfl) (by omega) m0 m1
  rwa [List.nil_append, Nat.zero_add] at h
theorem text_nil {s : ByteArray} {ys : List Int} {n : Nat} (w : World) (hs : s.size ≤ 1000) (hy : text7 s = ys) (hn : ys.length = n) :
    Calls Try.prog 84 #[.slice none 0 0, .string s] w (Made w n ys) := by
  subst hy hn
  have h := text_use (zs := []) (n := 0) (c := 0) s rfl (Lies.none_ (w := w) (A := none)) (fun _ => rfl) (by omega)
  rwa [List.nil_append, Nat.zero_add] at h
theorem lit_lies (w : World) {zs : List Int} {cs : Array Value} (h : cs = (cellsOf zs).toArray) : Lies (w.alloc (.cells cs 5)) (some ⟨w.heap.size, 0, none⟩) zs := by
  subst h; exact lies_lit w zs 5 (0, 0)
theorem same_lit {A : Option Addr} {n c : Nat} {zs : List Int} {cs : Array Value} {w : World} (hl : Lies w A zs) (hn : zs.length = n) (ln : n ≤ 1000) (hcs : cs = (cellsOf zs).toArray) :
    Calls Try.prog 23 #[.slice A n c, .slice (some ⟨w.heap.size, 0, none⟩) n n] (w.alloc (.cells cs 5)) fun e w' => e = .returned (.bool true) ∧ Below w.heap.size w w' := by
  have h := same_any A (some ⟨w.heap.size, 0, none⟩) n n c n zs zs (w.alloc (.cells cs 5)) hn hn (hl.alloc _) (lit_lies w hcs) (by omega) (by omega)
  rw [decide_eq_true rfl] at h
  exact h.mono fun _ _ ⟨he, q, hw⟩ => ⟨he, by rw [hw]; exact kept_drewN (kept_alloc (kept_refl w) _) q⟩
end Go.Proofs.Ytahfpncfkcfogaa
