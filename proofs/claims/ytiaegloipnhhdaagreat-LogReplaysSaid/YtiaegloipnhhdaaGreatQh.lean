/- Bytes of the call's own, one behind the other. Conditions: what each call's own says. -/
import Derived.Test.YtiaegloipnhhdaaGreatQc
import Derived.Test.YtiaegloipnhhdaaGreatQd
import Derived.Test.YtiaegloipnhhdaaGreatQb
import Derived.Test.YtiaegloipnhhdaaGreatQe
import Derived.Test.YtiaegloipnhhdaaGreatQa
import Derived.LoopTactic
namespace Go.Proofs.YtiaegloipnhhdaaGreat
set_option maxRecDepth 100000
open Go.RowKit
theorem own_form {w : World} {m base : Nat} {e : TypeId} {v : Value} {n : Nat} {xs : List Value} (h : w.ownsRow base e m v n xs) : ∃ A c, v = .slice A n c ∧ (A = none → c = 0) ∧ n ≤ c ∧ c ≤ maxLen ∧ (∀ a, A = some a → a.spot = none ∧ a.off = 0) := by
  rcases h.2 with ⟨rfl, rfl⟩ | ⟨g, cap, cur, rfl, _, _, hc, hm, _⟩
  · exact ⟨none, 0, rfl, fun _ => rfl, Nat.le_refl _, by unfold maxLen; omega, fun a h => by cases h⟩
  · exact ⟨_, cap, rfl, (fun h => by cases h), hc, hm, fun a h => by cases h; exact ⟨rfl, rfl⟩⟩
/-- A row of the call's own that is these bytes. -/
def By (b : Nat) (w : World) (v : Value) (zs : List Int) : Prop := w.ownsRow b 5 1 v zs.length (cellsOf zs)
def MadeB (w : World) (zs : List Int) (e : Ending) (w' : World) : Prop := ∃ u, e = .returned u ∧ By w.heap.size w' u zs ∧ Below w.heap.size w w'
section
variable {b b' : Nat} {w w' : World} {v : Value} {zs : List Int}
theorem By.nil_ (b : Nat) (w : World) : By b w (.slice none 0 0) [] := ⟨rfl, .inl ⟨rfl, rfl⟩⟩
theorem By.below (h : By b w v zs) (hb : Below w.heap.size w w') : By b w' v zs := by
  unfold By at h ⊢
  exact h.kept (grown_below hb) (by cases v.ownBlock <;> simp)
theorem By.mono (h : By b' w v zs) (hb : b ≤ b') : By b w v zs := by
  refine ⟨h.1, h.2.imp_right ?_⟩
  rintro ⟨g, cap, cur, h1, h2, h3⟩
  exact ⟨g, cap, cur, h1, Nat.le_trans hb h2, h3⟩
theorem By.form (h : By b w v zs) : ∃ A c, v = .slice A zs.length c ∧ (A = none → c = 0) ∧ zs.length ≤ c ∧ c ≤ 9223372036854775807 ∧ Lies w A zs := by
  obtain ⟨A, c, e, hA, hn, hc, _⟩ := own_form h
  subst e
  have hmx : maxLen ≤ 9223372036854775807 := by unfold maxLen; omega
  exact ⟨A, c, rfl, hA, hn, Nat.le_trans hc hmx, Lies.of_own h⟩
theorem By.blk (h : By b w v zs) : ∀ k, v.ownBlock = some k → b ≤ k ∧ k < w.heap.size := fun k e => by
  rcases h.2 with ⟨rfl, _⟩ | ⟨g1, c1, cur1, rfl, hb, h1, _⟩
  · cases e
  · have e : some g1 = some k := e
    cases e
    exact ⟨hb, (Array.getElem?_eq_some_iff.1 h1).1⟩
theorem by_of {w : World} {n : Nat} {zs : List Int} (hn : n = zs.length) {e : Ending} {w' : World} (h : ∃ v, e = .returned v ∧ w'.ownsRow w.heap.size 5 1 v n (cellsOf zs) ∧ Below w.heap.size w w') : MadeB w zs e w' := by
  subst hn
  exact h
theorem bnum (h : By b w v zs) (m : Int) (ln : zs.length ≤ 140737488354000) (m0 : -9223372036854775808 ≤ m) (m1 : m ≤ 9223372036854775807) : Calls Tryz.prog 26 #[v, .int .i64 m] w (MadeB w (zs ++ num7 m)) := by
  obtain ⟨A, c, rfl, hA, _, _, hl⟩ := h.form
  exact (num_any A _ c zs m w rfl hl hA (by omega) m0 m1).mono fun _ _ z => by_of (by rw [List.length_append]) z
theorem btext (h : By b w v zs) (s : ByteArray) (ln : zs.length ≤ 140737488354000) (hs : s.size ≤ 1000) : Calls Tryz.prog 135 #[v, .string s] w (MadeB w (zs ++ text7 s)) := by
  obtain ⟨A, c, rfl, hA, _, _, hl⟩ := h.form
  exact (text_any A _ c zs s w rfl hl hA (by omega)).mono fun _ _ z => by_of (by rw [List.length_append]) z
theorem btext_z (h : By b w v zs) (s : ByteArray) (ln : zs.length ≤ 100000) (hs : s.size ≤ 100000) : Calls Tryz.prog 135 #[v, .string s] w (MadeB w (zs ++ text7 s)) := by
  obtain ⟨A, c, rfl, hA, _, _, hl⟩ := h.form
  exact (text_any A _ c zs s w rfl hl hA (by omega)).mono fun _ _ z => by_of (by rw [List.length_append]) z
theorem rbtext_z (h : By b w v zs) (s : ByteArray) (ln : zs.length ≤ 100000) (hs : s.size ≤ 100000) : Calls Tryz.prog 123 #[v, .string s] w (MadeB w (zs ++ text7 s)) := by
  obtain ⟨A, c, rfl, hA, _, _, hl⟩ := h.form
  exact (rtext_any A _ c zs s w rfl hl hA (by omega)).mono fun _ _ z => by_of (by rw [List.length_append]) z
theorem bflag (h : By b w v zs) (f : Bool) (ln : zs.length ≤ 140737488354000) : Calls Tryz.prog 93 #[v, .bool f] w (MadeB w (zs ++ flg7 f)) := by
  obtain ⟨A, c, rfl, hA, _, _, hl⟩ := h.form
  exact (flag_any A _ c zs f w rfl hl hA (by omega)).mono fun _ _ z => by_of (by unfold flg7; rw [List.length_append]; rfl) z
theorem rbnum (h : By b w v zs) (m : Int) (ln : zs.length ≤ 140737488354000) (m0 : -9223372036854775808 ≤ m) (m1 : m ≤ 9223372036854775807) : Calls Tryz.prog 83 #[v, .int .i64 m] w (MadeB w (zs ++ num7 m)) := by
  obtain ⟨A, c, rfl, hA, _, _, hl⟩ := h.form
  exact (rnum_any A _ c zs m w rfl hl hA (by omega) m0 m1).mono fun _ _ z => by_of (by rw [List.length_append]) z
theorem rbtext (h : By b w v zs) (s : ByteArray) (ln : zs.length ≤ 140737488354000) (hs : s.size ≤ 1000) : Calls Tryz.prog 123 #[v, .string s] w (MadeB w (zs ++ text7 s)) := by
  obtain ⟨A, c, rfl, hA, _, _, hl⟩ := h.form
  exact (rtext_any A _ c zs s w rfl hl hA (by omega)).mono fun _ _ z => by_of (by rw [List.length_append]) z
theorem rbflag (h : By b w v zs) (f : Bool) (ln : zs.length ≤ 140737488354000) : Calls Tryz.prog 84 #[v, .bool f] w (MadeB w (zs ++ flg7 f)) := by
  obtain ⟨A, c, rfl, hA, _, _, hl⟩ := h.form
  exact (rflag_any A _ c zs f w rfl hl hA (by omega)).mono fun _ _ z => by_of (by unfold flg7; rw [List.length_append]; rfl) z
end
end Go.Proofs.YtiaegloipnhhdaaGreat
/- A cell's and a letter's bytes are bytes, and few; cells one behind the other, in plain words. No condition: nothing here speaks of a program. -/
namespace Go.Proofs.YtiaegloipnhhdaaGreat
open Go.RowKit
theorem Octets.app {a b : List Int} (h : Octets a) (k : Octets b) : Octets (a ++ b) := fun z hz => (List.mem_append.1 hz).elim (h z) (k z)
theorem Octets.nil_ : Octets [] := fun z hz => by cases hz
theorem Octets.opt {b : Bool} {a : List Int} (h : Octets a) : Octets (if b then a else []) := by
  cases b
  · exact Octets.nil_
  · exact h
theorem octets_text7 (s : ByteArray) : Octets (text7 s) := (octets_num7 _).app (octets_strL s)
theorem octets_flg7 (f : Bool) : Octets (flg7 f) := fun z hz => by
  unfold flg7 at hz
  rw [List.mem_singleton] at hz
  subst hz
  cases f <;> decide
theorem octets_encB (b : Int × Int) : Octets (encB b) := (octets_num7 _).app (octets_num7 _)
theorem octets_encX (x : Cl) : Octets (encX x) := by
  refine (octets_num7 _).app ((octets_encB _).app ?_)
  unfold encT
  split
  · exact Octets.nil_
  · exact (octets_encB _).app ((octets_packC _).app ((octets_encN _).app (octets_flg7 _)))
theorem octets_encM (m : Lt) : Octets (encM m) :=
  (octets_num7 _).app ((octets_num7 _).app ((octets_num7 _).app ((octets_encB _).opt.app ((octets_encB _).opt.app ((octets_packC _).opt.app ((octets_encN _).opt.app ((octets_encX _).opt.app ((octets_encN _).opt.app (octets_text7 _).opt))))))))
theorem octets_encCl (x : Cl) : Octets (encCl x) := (octets_encX x).opt
theorem octets_encLt (m : Lt) : Octets (encLt m) := (octets_encM m).opt
theorem opt_len {b : Bool} {a : List Int} {n : Nat} (h : a.length ≤ n) : (if b then a else []).length ≤ n := by
  cases b
  · exact Nat.zero_le _
  · exact h
theorem encB_len (b : Int × Int) : (encB b).length ≤ 20 := by
  unfold encB
  have h1 := (num7_len b.1).2
  have h2 := (num7_len b.2).2
  rw [List.length_append]
  omega
theorem encX_len {x : Cl} (hl : x.a.length = 8) : 1 ≤ (encX x).length ∧ (encX x).length ≤ 431 := by
  have h1 := num7_len x.st
  have h2 := encB_len x.p
  have h3 := encB_len x.v
  have h4 := packC_len x.c
  have h5 := (encN_len x.a).2
  have h6 : (encT x).length ≤ 401 := by
    unfold encT
    split
    · simp
    · rw [List.length_append, List.length_append, List.length_append]
      have : (flg7 x.s).length = 1 := rfl
      omega
  unfold encX
  rw [List.length_append, List.length_append]
  omega
theorem encCl_len {x : Cl} (hl : x.a.length = 8) : (encCl x).length ≤ 431 := opt_len (encX_len hl).2
theorem encCl_pos {x : Cl} (hl : x.a.length = 8) : decide (0 < (encCl x).length) = rightCl x := by
  unfold encCl
  have := (encX_len hl).1
  cases h : rightCl x
  · rfl
  · rw [if_pos rfl, decide_eq_true_iff]; omega
theorem encM_len {m : Lt} (w : LtWf m) : (encM m).length ≤ 1000 + m.z.size := by
  have h1 := (num7_len m.k).2
  have h2 := (num7_len m.f).2
  have h3 := (num7_len m.t).2
  have h4 := opt_len (b := nmI m.k) (encB_len m.i)
  have h5 := opt_len (b := nmB m.k) (encB_len m.b)
  have h6 := opt_len (b := nmC m.k) (packC_len m.c)
  have h7 := opt_len (b := nmA m.k) (encN_len m.a).2
  have h8 := opt_len (b := nmX m.k) (encX_len w.x).2
  have h9 := opt_len (b := nmD m.k) (encN_len m.d).2
  have ha := opt_len (b := nmZ m.k) (n := 10 + m.z.size) (a := text7 m.z) (by rw [text7_len]; have := (num7_len (m.z.size : Int)).2; omega)
  have hw := w.a
  have hd := w.d
  unfold encM encR
  simp only [List.length_append]
  omega
theorem encLt_len {m : Lt} (w : LtWf m) : (encLt m).length ≤ 1000 + m.z.size := opt_len (encM_len w)
/-! ### Cells one behind the other -/
def encCs (l : List Cl) : List Int := l.flatMap encCl
def rightCs (l : List Cl) : List Cl := l.filter rightCl
theorem encCs_snoc (l : List Cl) (x : Cl) : encCs (l ++ [x]) = encCs l ++ encCl x := by unfold encCs; rw [List.flatMap_append]; simp
theorem rightCs_snoc (l : List Cl) (x : Cl) : rightCs (l ++ [x]) = rightCs l ++ (if rightCl x then [x] else []) := by
  unfold rightCs
  rw [List.filter_append, List.filter_cons, List.filter_nil]
theorem encCs_right : ∀ l : List Cl, encCs (rightCs l) = encCs l
  | [] => rfl
  | x :: r => by
    have ih := encCs_right r
    unfold encCs rightCs at ih ⊢
    rw [List.filter_cons, List.flatMap_cons]
    split
    · rw [List.flatMap_cons, ih]
    · rename_i h
      rw [ih]
      unfold encCl
      rw [if_neg h, List.nil_append]
theorem octets_encCs (l : List Cl) : Octets (encCs l) := fun z hz => by
  unfold encCs at hz
  obtain ⟨x, _, h⟩ := List.mem_flatMap.1 hz
  exact octets_encCl x z h
theorem encCs_len : ∀ {l : List Cl}, (∀ x, x ∈ l → x.a.length = 8) → (encCs l).length ≤ 431 * l.length
  | [], _ => by simp [encCs]
  | x :: r, h => by
    have ih := encCs_len (l := r) (fun y hy => h y (List.mem_cons_of_mem _ hy))
    have hx := encCl_len (h x (List.mem_cons_self ..))
    unfold encCs at ih ⊢
    rw [List.flatMap_cons, List.length_append, List.length_cons]
    omega
theorem encCs_at {l : List Cl} {j : Nat} (hj : j < l.length) : (encCs l).drop (encCs (l.take j)).length = encCl l[j] ++ encCs (l.drop (j + 1)) := by
  have e : encCs l = encCs (l.take j) ++ (encCl l[j] ++ encCs (l.drop (j + 1))) := by
    conv => lhs; rw [← List.take_append_drop j l, List.drop_eq_getElem_cons hj]
    unfold encCs
    rw [List.flatMap_append, List.flatMap_cons]
  rw [e, List.drop_left]
theorem encCs_next {l : List Cl} {j : Nat} (hj : j < l.length) : (encCs (l.take (j + 1))).length = (encCs (l.take j)).length + (encCl l[j]).length := by
  rw [List.take_succ_eq_append_getElem hj, encCs_snoc, List.length_append]
/-- The next cell of a row of right ones is read as itself. -/
theorem cell_next {l : List Cl} {j : Nat} (hj : j < l.length) (hr : ∀ x, x ∈ l → rightCl x = true ∧ x.a.length = 8) :
    dCl (encCs l) (encCs (l.take j)).length = .ok (l[j], (encCs (l.take (j + 1))).length) := by
  obtain ⟨h1, h2⟩ := hr l[j] (List.getElem_mem _)
  have e : encCl l[j] = encX l[j] := by unfold encCl; rw [if_pos h1]
  have hd := encCs_at hj
  rw [e] at hd
  rw [cl_there h1 h2 hd, encCs_next hj, e]
end Go.Proofs.YtiaegloipnhhdaaGreat
/- The document's ballot, inst, attr, command, PutCell: bytes of the call's own. Conditions: numbers such as an int holds, lengths have room. -/
namespace Go.Proofs.YtiaegloipnhhdaaGreat
set_option maxRecDepth 100000
open Go.RowKit
theorem len_two (a b : List Int) : (a ++ b).length = a.length + b.length := List.length_append
theorem cellb {w w' : World} {b i : Nat} {v : Value} (hb : Below w.heap.size w w') (h : w.cell? ⟨b, i, none⟩ = some v) (hl : b < w.heap.size) : w'.cell? ⟨b, i, none⟩ = some v := (hb.cell (p := ⟨b, i, none⟩) hl).trans h
set_option maxHeartbeats 4000000 in
theorem rballot_by {b0 : Nat} {v : Value} {zs : List Int} {w : World} (hv : By b0 w v zs) (hl : zs.length ≤ 140737488353500) (p : Int × Int) (h1 : I64 p.1) (h2 : I64 p.2) (hb0 : b0 ≤ w.heap.size) :
    Calls Tryz.prog 82 #[v, .agg #[.int .i64 p.1, .int .i64 p.2]] w fun e w' => ∃ u, e = .returned u ∧ By b0 w' u (zs ++ encB p) ∧ Below w.heap.size w w' := by
  obtain ⟨p1, p2⟩ := p
  have HL := hide (show zs.length ≤ 140737488354000 by omega)
  have HL0 := hide hl
  have H1 := hide h1
  have H2 := hide h2
  have hr := Row.new w 32 #[.int .i64 p1, .int .i64 p2]
  have HB0 := hide ((Below.refl w.heap.size w).alloc (Nat.le_refl _) (.cells #[.int .i64 p1, .int .i64 p2] 32))
  have HV := hide (hv.below HB0.out)
  have HC := hide (And.intro (And.intro (hr.cell 0) (hr.cell 1)) hr.lt)
  clear hv hr h1 h2 hl
  go_enter Tryz.func82, Tryz.ntmps82
  go_upto_region 1 with (fail)
  generalize w.alloc (.cells #[.int .i64 p1, .int .i64 p2] 32) = w1 at HV HB0 HC ⊢
  refine wp_region_noPanic ?_
  refine wp_region_T 7 (fun w' => (w'.cell? ⟨w.heap.size, 0, none⟩ = some (.int .i64 p1) ∧ w'.cell? ⟨w.heap.size, 1, none⟩ = some (.int .i64 p2)) ∧ w.heap.size < w'.heap.size) (by kernel_rfl) ?_
  have HD := hide (show (fun w' => (w'.cell? ⟨w.heap.size, 0, none⟩ = some (.int .i64 p1) ∧ w'.cell? ⟨w.heap.size, 1, none⟩ = some (.int .i64 p2)) ∧ w.heap.size < w'.heap.size) w1.drew ∧ By b0 w1.drew v zs ∧ Below w.heap.size w w1.drew from ⟨⟨⟨HC.out.1.1, HC.out.1.2⟩, HC.out.2⟩, HV.out.below (Below.refl _ _).drew, HB0.out.drew⟩)
  generalize World.drew _ = wda at HD ⊢
  refine anyT_take (i := 0) (v := ?ov0a) (by simp only [List.getElem?_toArray, List.getElem?_cons_zero]; exact rfl) (by kernel_rfl) (by kernel_rfl) (fun _ _ _ h => h) (by kernel_rfl) (by kernel_rfl) (Or.inl ⟨by rfl, ?oy0a⟩) (by with_reducible exact HD.out.1) ?or0a
  case oy0a => (intro w hSw; skip; go_simp; try with_reducible rfl)
  try simp only [Act.put, List.setIfInBounds_toArray, List.set_cons_zero, List.set_cons_succ]
  refine anyT_take (i := 1) (v := ?ov1a) (by simp only [List.getElem?_toArray, List.getElem?_cons_succ, List.getElem?_cons_zero]; exact rfl) (by kernel_rfl) (by kernel_rfl) (fun _ _ _ h => h) (by kernel_rfl) (by kernel_rfl) (Or.inl ⟨by rfl, ?oy1a⟩) (by with_reducible exact HD.out.1) ?or1a
  case oy1a => (intro w hSw; skip; go_simp; try with_reducible rfl)
  try simp only [Act.put, List.setIfInBounds_toArray, List.set_cons_zero, List.set_cons_succ]
  refine anyT_take (i := 2) (v := ?ov2a) (by simp only [List.getElem?_toArray, List.getElem?_cons_succ, List.getElem?_cons_zero]; exact rfl) (by kernel_rfl) (by kernel_rfl) (fun _ _ _ h => h) (by kernel_rfl) (by kernel_rfl) (Or.inl ⟨by rfl, ?oy2a⟩) (by with_reducible exact HD.out.1) ?or2a
  case oy2a => (intro w hSw; obtain ⟨⟨c0, c1⟩, _⟩ := hSw; go_simp; try with_reducible rfl)
  try simp only [Act.put, List.setIfInBounds_toArray, List.set_cons_zero, List.set_cons_succ]
  refine anyT_take (i := 4) (v := ?ov4a) (by simp only [List.getElem?_toArray, List.getElem?_cons_succ, List.getElem?_cons_zero]; exact rfl) (by kernel_rfl) (by kernel_rfl) (fun _ _ _ h => h) (by kernel_rfl) (by kernel_rfl) (Or.inl ⟨by rfl, ?oy4a⟩) (by with_reducible exact HD.out.1) ?or4a
  case oy4a => (intro w hSw; skip; go_simp; try with_reducible rfl)
  try simp only [Act.put, List.setIfInBounds_toArray, List.set_cons_zero, List.set_cons_succ]
  refine anyT_take (i := 5) (v := ?ov5a) (by simp only [List.getElem?_toArray, List.getElem?_cons_succ, List.getElem?_cons_zero]; exact rfl) (by kernel_rfl) (by kernel_rfl) (fun _ _ _ h => h) (by kernel_rfl) (by kernel_rfl) (Or.inl ⟨by rfl, ?oy5a⟩) (by with_reducible exact HD.out.1) ?or5a
  case oy5a => (intro w hSw; obtain ⟨⟨c0, c1⟩, _⟩ := hSw; go_simp; try with_reducible rfl)
  try simp only [Act.put, List.setIfInBounds_toArray, List.set_cons_zero, List.set_cons_succ]
  refine anyT_one (i := 3) (by kernel_rfl) (by simp only [List.getElem?_toArray, List.getElem?_cons_succ, List.getElem?_cons_zero]; exact rfl) (fun K hK => ?_)
  try go_simp
  refine (rbnum HD.out.2.1 p1 HL.out H1.out.1 H1.out.2).mono ?_
  rintro e w3a ⟨y3a, rfl, hy, hb⟩
  have HD := hide (show (fun w' => (w'.cell? ⟨w.heap.size, 0, none⟩ = some (.int .i64 p1) ∧ w'.cell? ⟨w.heap.size, 1, none⟩ = some (.int .i64 p2)) ∧ w.heap.size < w'.heap.size) w3a ∧ By b0 w3a y3a (zs ++ num7 p1) ∧ Below w.heap.size w w3a from ⟨(fun hb h => ⟨⟨cellb hb h.1.1 h.2, cellb hb h.1.2 h.2⟩, Nat.lt_of_lt_of_le h.2 hb.size⟩) hb HD.out.1, hy.mono (Nat.le_trans hb0 HD.out.2.2.size), kept_trans HD.out.2.2 hb⟩)
  have HL := hide (show (zs ++ num7 p1).length ≤ 140737488354000 from by rw [len_two]; have := (num7_len p1).2; have := HL0.out; omega)
  clear hy hb
  refine hK.out _ _ (fun _ => HD.out.1) ?_
  clear hK K
  try simp only [Act.put, List.setIfInBounds_toArray, List.set_cons_zero, List.set_cons_succ]
  refine anyT_one (i := 6) (by kernel_rfl) (by simp only [List.getElem?_toArray, List.getElem?_cons_succ, List.getElem?_cons_zero]; exact rfl) (fun K hK => ?_)
  try go_simp
  refine (rbnum HD.out.2.1 p2 HL.out H2.out.1 H2.out.2).mono ?_
  rintro e w6a ⟨y6a, rfl, hy, hb⟩
  have HD := hide (show (fun w' => (w'.cell? ⟨w.heap.size, 0, none⟩ = some (.int .i64 p1) ∧ w'.cell? ⟨w.heap.size, 1, none⟩ = some (.int .i64 p2)) ∧ w.heap.size < w'.heap.size) w6a ∧ By b0 w6a y6a ((zs ++ num7 p1) ++ num7 p2) ∧ Below w.heap.size w w6a from ⟨(fun hb h => ⟨⟨cellb hb h.1.1 h.2, cellb hb h.1.2 h.2⟩, Nat.lt_of_lt_of_le h.2 hb.size⟩) hb HD.out.1, hy.mono (Nat.le_trans hb0 HD.out.2.2.size), kept_trans HD.out.2.2 hb⟩)
  have HL := hide (show ((zs ++ num7 p1) ++ num7 p2).length ≤ 140737488354000 from by rw [len_two, len_two]; have := (num7_len p1).2; have := (num7_len p2).2; have := HL0.out; omega)
  clear hy hb
  refine hK.out _ _ (fun _ => HD.out.1) ?_
  clear hK K
  try simp only [Act.put, List.setIfInBounds_toArray, List.set_cons_zero, List.set_cons_succ]
  refine anyT_one (i := 7) (by kernel_rfl) (by simp only [List.getElem?_toArray, List.getElem?_cons_succ, List.getElem?_cons_zero]; exact rfl) (fun K hK => ?_)
  try go_simp
  refine hK.out _ _ (fun e => absurd rfl e) ?_
  clear hK K
  refine anyT_done (by kernel_rfl) ?_
  refine NoPanic.normal ?_
  try simp only [Act.put]
  go_wp2
  go_ret
  refine ⟨_, rfl, ?_, HD.out.2.2⟩
  unfold encB
  rw [← List.append_assoc]
  exact HD.out.2.1
set_option maxHeartbeats 4000000 in
theorem rinst_by {b0 : Nat} {v : Value} {zs : List Int} {w : World} (hv : By b0 w v zs) (hl : zs.length ≤ 140737488353500) (p : Int × Int) (h1 : I64 p.1) (h2 : I64 p.2) (hb0 : b0 ≤ w.heap.size) :
    Calls Tryz.prog 47 #[v, .agg #[.int .i64 p.1, .int .i64 p.2]] w fun e w' => ∃ u, e = .returned u ∧ By b0 w' u (zs ++ encB p) ∧ Below w.heap.size w w' := by
  obtain ⟨p1, p2⟩ := p
  have HL := hide (show zs.length ≤ 140737488354000 by omega)
  have HL0 := hide hl
  have H1 := hide h1
  have H2 := hide h2
  have hr := Row.new w 30 #[.int .i64 p1, .int .i64 p2]
  have HB0 := hide ((Below.refl w.heap.size w).alloc (Nat.le_refl _) (.cells #[.int .i64 p1, .int .i64 p2] 30))
  have HV := hide (hv.below HB0.out)
  have HC := hide (And.intro (And.intro (hr.cell 0) (hr.cell 1)) hr.lt)
  clear hv hr h1 h2 hl
  go_enter Tryz.func47, Tryz.ntmps47
  go_upto_region 1 with (fail)
  generalize w.alloc (.cells #[.int .i64 p1, .int .i64 p2] 30) = w1 at HV HB0 HC ⊢
  refine wp_region_noPanic ?_
  refine wp_region_T 7 (fun w' => (w'.cell? ⟨w.heap.size, 0, none⟩ = some (.int .i64 p1) ∧ w'.cell? ⟨w.heap.size, 1, none⟩ = some (.int .i64 p2)) ∧ w.heap.size < w'.heap.size) (by kernel_rfl) ?_
  have HD := hide (show (fun w' => (w'.cell? ⟨w.heap.size, 0, none⟩ = some (.int .i64 p1) ∧ w'.cell? ⟨w.heap.size, 1, none⟩ = some (.int .i64 p2)) ∧ w.heap.size < w'.heap.size) w1.drew ∧ By b0 w1.drew v zs ∧ Below w.heap.size w w1.drew from ⟨⟨⟨HC.out.1.1, HC.out.1.2⟩, HC.out.2⟩, HV.out.below (Below.refl _ _).drew, HB0.out.drew⟩)
  generalize World.drew _ = wda at HD ⊢
  refine anyT_take (i := 0) (v := ?ov0a) (by simp only [List.getElem?_toArray, List.getElem?_cons_zero]; exact rfl) (by kernel_rfl) (by kernel_rfl) (fun _ _ _ h => h) (by kernel_rfl) (by kernel_rfl) (Or.inl ⟨by rfl, ?oy0a⟩) (by with_reducible exact HD.out.1) ?or0a
  case oy0a => (intro w hSw; skip; go_simp; try with_reducible rfl)
  try simp only [Act.put, List.setIfInBounds_toArray, List.set_cons_zero, List.set_cons_succ]
  refine anyT_take (i := 1) (v := ?ov1a) (by simp only [List.getElem?_toArray, List.getElem?_cons_succ, List.getElem?_cons_zero]; exact rfl) (by kernel_rfl) (by kernel_rfl) (fun _ _ _ h => h) (by kernel_rfl) (by kernel_rfl) (Or.inl ⟨by rfl, ?oy1a⟩) (by with_reducible exact HD.out.1) ?or1a
  case oy1a => (intro w hSw; skip; go_simp; try with_reducible rfl)
  try simp only [Act.put, List.setIfInBounds_toArray, List.set_cons_zero, List.set_cons_succ]
  refine anyT_take (i := 2) (v := ?ov2a) (by simp only [List.getElem?_toArray, List.getElem?_cons_succ, List.getElem?_cons_zero]; exact rfl) (by kernel_rfl) (by kernel_rfl) (fun _ _ _ h => h) (by kernel_rfl) (by kernel_rfl) (Or.inl ⟨by rfl, ?oy2a⟩) (by with_reducible exact HD.out.1) ?or2a
  case oy2a => (intro w hSw; obtain ⟨⟨c0, c1⟩, _⟩ := hSw; go_simp; try with_reducible rfl)
  try simp only [Act.put, List.setIfInBounds_toArray, List.set_cons_zero, List.set_cons_succ]
  refine anyT_take (i := 4) (v := ?ov4a) (by simp only [List.getElem?_toArray, List.getElem?_cons_succ, List.getElem?_cons_zero]; exact rfl) (by kernel_rfl) (by kernel_rfl) (fun _ _ _ h => h) (by kernel_rfl) (by kernel_rfl) (Or.inl ⟨by rfl, ?oy4a⟩) (by with_reducible exact HD.out.1) ?or4a
  case oy4a => (intro w hSw; skip; go_simp; try with_reducible rfl)
  try simp only [Act.put, List.setIfInBounds_toArray, List.set_cons_zero, List.set_cons_succ]
  refine anyT_take (i := 5) (v := ?ov5a) (by simp only [List.getElem?_toArray, List.getElem?_cons_succ, List.getElem?_cons_zero]; exact rfl) (by kernel_rfl) (by kernel_rfl) (fun _ _ _ h => h) (by kernel_rfl) (by kernel_rfl) (Or.inl ⟨by rfl, ?oy5a⟩) (by with_reducible exact HD.out.1) ?or5a
  case oy5a => (intro w hSw; obtain ⟨⟨c0, c1⟩, _⟩ := hSw; go_simp; try with_reducible rfl)
  try simp only [Act.put, List.setIfInBounds_toArray, List.set_cons_zero, List.set_cons_succ]
  refine anyT_one (i := 3) (by kernel_rfl) (by simp only [List.getElem?_toArray, List.getElem?_cons_succ, List.getElem?_cons_zero]; exact rfl) (fun K hK => ?_)
  try go_simp
  refine (rbnum HD.out.2.1 p1 HL.out H1.out.1 H1.out.2).mono ?_
  rintro e w3a ⟨y3a, rfl, hy, hb⟩
  have HD := hide (show (fun w' => (w'.cell? ⟨w.heap.size, 0, none⟩ = some (.int .i64 p1) ∧ w'.cell? ⟨w.heap.size, 1, none⟩ = some (.int .i64 p2)) ∧ w.heap.size < w'.heap.size) w3a ∧ By b0 w3a y3a (zs ++ num7 p1) ∧ Below w.heap.size w w3a from ⟨(fun hb h => ⟨⟨cellb hb h.1.1 h.2, cellb hb h.1.2 h.2⟩, Nat.lt_of_lt_of_le h.2 hb.size⟩) hb HD.out.1, hy.mono (Nat.le_trans hb0 HD.out.2.2.size), kept_trans HD.out.2.2 hb⟩)
  have HL := hide (show (zs ++ num7 p1).length ≤ 140737488354000 from by rw [len_two]; have := (num7_len p1).2; have := HL0.out; omega)
  clear hy hb
  refine hK.out _ _ (fun _ => HD.out.1) ?_
  clear hK K
  try simp only [Act.put, List.setIfInBounds_toArray, List.set_cons_zero, List.set_cons_succ]
  refine anyT_one (i := 6) (by kernel_rfl) (by simp only [List.getElem?_toArray, List.getElem?_cons_succ, List.getElem?_cons_zero]; exact rfl) (fun K hK => ?_)
  try go_simp
  refine (rbnum HD.out.2.1 p2 HL.out H2.out.1 H2.out.2).mono ?_
  rintro e w6a ⟨y6a, rfl, hy, hb⟩
  have HD := hide (show (fun w' => (w'.cell? ⟨w.heap.size, 0, none⟩ = some (.int .i64 p1) ∧ w'.cell? ⟨w.heap.size, 1, none⟩ = some (.int .i64 p2)) ∧ w.heap.size < w'.heap.size) w6a ∧ By b0 w6a y6a ((zs ++ num7 p1) ++ num7 p2) ∧ Below w.heap.size w w6a from ⟨(fun hb h => ⟨⟨cellb hb h.1.1 h.2, cellb hb h.1.2 h.2⟩, Nat.lt_of_lt_of_le h.2 hb.size⟩) hb HD.out.1, hy.mono (Nat.le_trans hb0 HD.out.2.2.size), kept_trans HD.out.2.2 hb⟩)
  have HL := hide (show ((zs ++ num7 p1) ++ num7 p2).length ≤ 140737488354000 from by rw [len_two, len_two]; have := (num7_len p1).2; have := (num7_len p2).2; have := HL0.out; omega)
  clear hy hb
  refine hK.out _ _ (fun _ => HD.out.1) ?_
  clear hK K
  try simp only [Act.put, List.setIfInBounds_toArray, List.set_cons_zero, List.set_cons_succ]
  refine anyT_one (i := 7) (by kernel_rfl) (by simp only [List.getElem?_toArray, List.getElem?_cons_succ, List.getElem?_cons_zero]; exact rfl) (fun K hK => ?_)
  try go_simp
  refine hK.out _ _ (fun e => absurd rfl e) ?_
  clear hK K
  refine anyT_done (by kernel_rfl) ?_
  refine NoPanic.normal ?_
  try simp only [Act.put]
  go_wp2
  go_ret
  refine ⟨_, rfl, ?_, HD.out.2.2⟩
  unfold encB
  rw [← List.append_assoc]
  exact HD.out.2.1
theorem encN_take {a : List Int} {k : Nat} (h : k < a.length) : encN (a.take (k + 1)) = encN (a.take k) ++ num7 (ix a k) := by
  rw [List.take_succ_eq_append_getElem h, ix_lt a h]
  unfold encN
  rw [List.flatMap_append, List.flatMap_cons, List.flatMap_nil, List.append_nil]
theorem cA_cell {w : World} {g : Nat} {t : TypeId} {a : List Int} (h : Row w g t (cA a)) {k : Nat} (hk : k < a.length) : w.cell? ⟨g, k, none⟩ = some (.int .i64 (ix a k)) := by
  rw [h.cell]
  unfold cA
  rw [List.getElem?_toArray]
  exact cellsR_at a hk
set_option maxHeartbeats 4000000 in
theorem rattr_by {b0 : Nat} {v : Value} {zs : List Int} {w : World} (hv : By b0 w v zs) (hl : zs.length ≤ 140737488353500) {a : List Int} (h8 : a.length = 8) (ho : ∀ n, n ∈ a → I64 n) (hb0 : b0 ≤ w.heap.size) :
    Calls Tryz.prog 85 #[v, .agg (cA a)] w fun e w' => ∃ u, e = .returned u ∧ By b0 w' u (zs ++ encN a) ∧ Below w.heap.size w w' := by
  have HI := hide (fun (k : Nat) (hk : k < 8) => ho (ix a k) (by rw [ix_lt a (by omega)]; exact List.getElem_mem _))
  have HT := hide (fun (k : Nat) (hk : k < 8) => encN_take (a := a) (k := k) (by omega))
  have HN := hide (fun (k : Nat) => (encN_len (a.take k)).2)
  have HB0 := hide ((Below.refl w.heap.size w).alloc (Nat.le_refl _) (.cells (cA a) 36))
  have HV := hide (hv.below HB0.out)
  have HR := hide (Row.new w 36 (cA a))
  have H8 := hide h8
  have HL := hide hl
  have HBB := hide hb0
  have c0 := cA_cell HR.out (k := 0) (by omega)
  clear hv hl ho hb0 h8
  go_enter Tryz.func85, Tryz.ntmps85
  go_upto_region 1 with (fail)
  generalize w.alloc (.cells (cA a) 36) = w1 at HV HB0 HR c0 ⊢
  have HN1 := hide (rbnum HV.out (ix a 0) (by have := HL.out; omega) (HI.out 0 (by omega)).1 (HI.out 0 (by omega)).2)
  go_upto_region 2 with (go_at_call 83; (with_reducible refine HN1.out.mono ?_); rintro e w2 ⟨u, rfl, hy, hb⟩)
  have HB2 := hide (kept_trans HB0.out hb)
  have HR2 := hide (HR.out.below hb HR.out.lt)
  have HY2 := hide (show By b0 w2 u (zs ++ encN (a.take 1)) by rw [HT.out 0 (by omega), List.take_zero]; exact hy.mono (Nat.le_trans HBB.out HB0.out.size))
  clear hy hb c0 HV HN1
  go_wp2
  go_loopw [0, 5] (fun b i wr => ∃ k : Nat, k ≤ 7 ∧ i = .int .i64 k ∧ Hid (By b0 wr b (zs ++ encN (a.take (1 + k)))) ∧ Hid (Row wr w.heap.size 36 (cA a)) ∧ Hid (Below w.heap.size w wr)) (fun _ i _ => 7 - (intOf i).toNat)
  case atStart => exact ⟨0, by omega, rfl, HY2, HR2, HB2⟩
  case round =>
    clear HB2 HR2 HY2
    obtain ⟨k, hk, rfl, HY, HR, HB⟩ := hrel
    by_cases hlt : k < 7
    · have k7 : (k : Int) < 7 := by omega
      have cq := cA_cell HR.out (k := 1 + k) (by have := H8.out; omega)
      have HQ := hide (HI.out (1 + k) (by omega))
      have HS := hide (HT.out (1 + k) (by omega))
      have HLL := hide (show (zs ++ encN (a.take (1 + k))).length ≤ 140737488354000 by rw [len_two]; have := HN.out (1 + k); rw [List.length_take] at this; have := HL.out; omega)
      generalize ix a (1 + k) = q at cq HQ HS
      have HN2 := hide (rbnum HY.out q HLL.out HQ.out.1 HQ.out.2)
      go_wp2_with (go_at_call 83; (with_reducible refine HN2.out.mono ?_); rintro e w3 ⟨u3, rfl, hy, hb⟩)
      have HY3 := hide (show By b0 w3 u3 (zs ++ encN (a.take (1 + (k + 1)))) by rw [← Nat.add_assoc, HS.out, ← List.append_assoc]; exact hy.mono (Nat.le_trans HBB.out HB.out.size))
      have HR3 := hide (HR.out.below hb HR.out.lt)
      have HB3 := hide (kept_trans HB.out hb)
      clear hy hb
      go_roundw
      case rel => exact ⟨k + 1, by omega, by go_num, HY3, HR3, HB3⟩
      case measure => simp [intOf]; omega
    · obtain rfl : k = 7 := by omega
      have HE := hide (show encN (a.take (1 + 7)) = encN a by rw [List.take_of_length_le (by have := H8.out; omega)])
      go_wp2
      go_ret
      exact ⟨_, rfl, by rw [← HE.out]; exact HY.out, HB.out⟩
end Go.Proofs.YtiaegloipnhhdaaGreat
/- The document's command: a right command's bytes behind bytes of the call's own. Conditions: lengths have room. -/
namespace Go.Proofs.YtiaegloipnhhdaaGreat
set_option maxRecDepth 100000
open Go.RowKit
theorem Row.cm {w : World} {g : Nat} {t : TypeId} {x : Cm} (h : Row w g t (rowC x)) : w.cell? ⟨g, 0, none⟩ = some (.int .i64 x.k) ∧ w.cell? ⟨g, 1, none⟩ = some (.int .i64 x.c) ∧ w.cell? ⟨g, 2, none⟩ = some (.int .i64 x.q) ∧ w.cell? ⟨g, 3, none⟩ = some (.string x.key) ∧
    w.cell? ⟨g, 4, none⟩ = some (.string x.en) ∧ w.cell? ⟨g, 5, none⟩ = some (.string x.old) ∧ w.cell? ⟨g, 6, none⟩ = some (.string x.val) := ⟨h.cell 0, h.cell 1, h.cell 2, h.cell 3, h.cell 4, h.cell 5, h.cell 6⟩
set_option maxHeartbeats 8000000 in
theorem rcommand_by {b0 : Nat} {v : Value} {zs : List Int} {w : World} (hv : By b0 w v zs) (hl : zs.length ≤ 140737488353500) (x : Cm) (hr : rightC x = true) (hb0 : b0 ≤ w.heap.size) :
    Calls Tryz.prog 86 #[v, .agg #[.int .i64 x.k, .int .i64 x.c, .int .i64 x.q, .string x.key, .string x.en, .string x.old, .string x.val]] w fun e w' => ∃ u, e = .returned u ∧ By b0 w' u (zs ++ packC x) ∧ Below w.heap.size w w' := by
  have hp : packC x = bytesC x := by unfold packC; rw [hr]; rfl
  rw [hp]
  have HL0 := hide hl
  have HBB := hide hb0
  have HB0 := hide ((Below.refl w.heap.size w).alloc (Nat.le_refl _) (.cells (rowC x) 34))
  have HV := hide (hv.below HB0.out)
  have HR := hide (Row.new w 34 (rowC x))
  by_cases hk : x.k = 0
  · have hx := right_zero hr hk
    subst hx
    clear hr hp hv hl hb0
    have HN1 := hide (rbnum HV.out 0 (by have := HL0.out; omega) (by omega) (by omega))
    obtain ⟨c0, c1, c2, c3, c4, c5, c6⟩ := HR.out.cm
    obtain ⟨w1, hw1⟩ : ∃ w1, w.alloc (.cells (rowC zeroC) 34) = w1 := ⟨_, rfl⟩
    rw [hw1] at HB0 HV HR HN1 c0
    replace c0 : w1.cell? ⟨w.heap.size, 0, none⟩ = some (.int .i64 0) := c0
    clear c1 c2 c3 c4 c5 c6
    go_enter Tryz.func86, Tryz.ntmps86
    go_upto_region 1 with (fail)
    generalize hg : World.alloc w _ = wg
    have hg2 : wg = w1 := hg.symm.trans hw1
    clear hg hw1
    subst hg2
    go_upto_region 2 with (go_at_call 83; (with_reducible refine HN1.out.mono ?_); rintro e w2 ⟨u, rfl, hy, hb⟩)
    have HB2 := hide (kept_trans HB0.out hb)
    have d0 := cellb hb c0 HR.out.lt
    have HY2 := hide (show By b0 w2 u (zs ++ bytesC zeroC) from hy.mono (Nat.le_trans HBB.out HB0.out.size))
    clear hy hb c0 HV HN1
    go_wp2
    go_ret
    exact ⟨_, rfl, HY2.out, HB2.out⟩
  · obtain ⟨hn, hbd, k1, k5⟩ := right_kind hr hk
    obtain ⟨q1, q8, q2, qm, sa, sb, so, sv⟩ := bound_says hbd
    clear hr hp hv hl hb0 hbd hn
    obtain ⟨k, c, q, ka, kb, ko, kv⟩ := x
    dsimp only at hk k1 k5 q1 q8 q2 qm sa sb so sv
    have HSZ := hide (And.intro sa (And.intro sb (And.intro so sv)))
    have HQ := hide (And.intro (And.intro q1 q8) (And.intro q2 qm))
    have HN1 := hide (rbnum HV.out k (by have := HL0.out; omega) (by omega) (by omega))
    clear sa sb so sv q1 q8 q2 qm k1 k5
    obtain ⟨c0, c1, c2, c3, c4, c5, c6⟩ := HR.out.cm
    dsimp only at c0
    obtain ⟨w1, hw1⟩ : ∃ w1, w.alloc (.cells (rowC ⟨k, c, q, ka, kb, ko, kv⟩) 34) = w1 := ⟨_, rfl⟩
    rw [hw1] at HB0 HV HR HN1 c0
    go_enter Tryz.func86, Tryz.ntmps86
    go_upto_region 1 with (fail)
    generalize hg : World.alloc w _ = wg
    have hg2 : wg = w1 := hg.symm.trans hw1
    clear hg hw1
    subst hg2
    go_upto_region 2 with (go_at_call 83; (with_reducible refine HN1.out.mono ?_); rintro e w2 ⟨u, rfl, hy, hb⟩)
    have HB2 := hide (kept_trans HB0.out hb)
    have HR2 := hide (HR.out.below hb HR.out.lt)
    have d0 := cellb hb c0 HR.out.lt
    have HY2 := hide (show By b0 w2 u (zs ++ num7 k) from hy.mono (Nat.le_trans HBB.out HB0.out.size))
    have HL := hide (show (zs ++ num7 k).length ≤ 140737488354000 from by rw [len_two]; have := HL0.out; have := (num7_len k).2; omega)
    clear hy hb c0 HV HN1 HR HB0
    go_upto_region 4 with (fail)
    clear d0
    refine wp_region_noPanic ?_
    refine wp_region_T 10 (fun w' => Row w' w.heap.size 34 (rowC ⟨k, c, q, ka, kb, ko, kv⟩)) (by kernel_rfl) ?_
    have HD := hide (show (fun w' => Row w' w.heap.size 34 (rowC ⟨k, c, q, ka, kb, ko, kv⟩)) w2.drew ∧ By b0 w2.drew u (zs ++ num7 k) ∧ Below w.heap.size w w2.drew from ⟨HR2.out.drewN 1, HY2.out.below (Below.refl _ _).drew, HB2.out.drew⟩)
    generalize World.drew _ = wdd at HD ⊢
    refine anyT_take (i := 0) (v := ?ov0d) (by simp only [List.getElem?_toArray, List.getElem?_cons_zero]; exact rfl) (by kernel_rfl) (by kernel_rfl) (fun _ _ _ h => h) (by kernel_rfl) (by kernel_rfl) (Or.inl ⟨by rfl, ?oy0d⟩) (by with_reducible exact HD.out.1) ?or0d
    case oy0d => (intro w hSw; skip; go_simp; try with_reducible rfl)
    try simp only [Act.put, List.setIfInBounds_toArray, List.set_cons_zero, List.set_cons_succ]
    refine anyT_take (i := 1) (v := ?ov1d) (by simp only [List.getElem?_toArray, List.getElem?_cons_succ, List.getElem?_cons_zero]; exact rfl) (by kernel_rfl) (by kernel_rfl) (fun _ _ _ h => h) (by kernel_rfl) (by kernel_rfl) (Or.inl ⟨by rfl, ?oy1d⟩) (by with_reducible exact HD.out.1) ?or1d
    case oy1d => (intro w hSw; skip; go_simp; try with_reducible rfl)
    try simp only [Act.put, List.setIfInBounds_toArray, List.set_cons_zero, List.set_cons_succ]
    refine anyT_take (i := 2) (v := ?ov2d) (by simp only [List.getElem?_toArray, List.getElem?_cons_succ, List.getElem?_cons_zero]; exact rfl) (by kernel_rfl) (by kernel_rfl) (fun _ _ _ h => h) (by kernel_rfl) (by kernel_rfl) (Or.inl ⟨by rfl, ?oy2d⟩) (by with_reducible exact HD.out.1) ?or2d
    case oy2d => (intro w hSw; obtain ⟨c0, c1, c2, c3, c4, c5, c6⟩ := hSw.cm; (try dsimp only at c0 c1 c2 c3 c4 c5 c6); go_simp; try with_reducible rfl)
    try simp only [Act.put, List.setIfInBounds_toArray, List.set_cons_zero, List.set_cons_succ]
    refine anyT_take (i := 4) (v := ?ov4d) (by simp only [List.getElem?_toArray, List.getElem?_cons_succ, List.getElem?_cons_zero]; exact rfl) (by kernel_rfl) (by kernel_rfl) (fun _ _ _ h => h) (by kernel_rfl) (by kernel_rfl) (Or.inl ⟨by rfl, ?oy4d⟩) (by with_reducible exact HD.out.1) ?or4d
    case oy4d => (intro w hSw; skip; go_simp; try with_reducible rfl)
    try simp only [Act.put, List.setIfInBounds_toArray, List.set_cons_zero, List.set_cons_succ]
    refine anyT_take (i := 5) (v := ?ov5d) (by simp only [List.getElem?_toArray, List.getElem?_cons_succ, List.getElem?_cons_zero]; exact rfl) (by kernel_rfl) (by kernel_rfl) (fun _ _ _ h => h) (by kernel_rfl) (by kernel_rfl) (Or.inl ⟨by rfl, ?oy5d⟩) (by with_reducible exact HD.out.1) ?or5d
    case oy5d => (intro w hSw; obtain ⟨c0, c1, c2, c3, c4, c5, c6⟩ := hSw.cm; (try dsimp only at c0 c1 c2 c3 c4 c5 c6); go_simp; try with_reducible rfl)
    try simp only [Act.put, List.setIfInBounds_toArray, List.set_cons_zero, List.set_cons_succ]
    refine anyT_take (i := 7) (v := ?ov7d) (by simp only [List.getElem?_toArray, List.getElem?_cons_succ, List.getElem?_cons_zero]; exact rfl) (by kernel_rfl) (by kernel_rfl) (fun _ _ _ h => h) (by kernel_rfl) (by kernel_rfl) (Or.inl ⟨by rfl, ?oy7d⟩) (by with_reducible exact HD.out.1) ?or7d
    case oy7d => (intro w hSw; skip; go_simp; try with_reducible rfl)
    try simp only [Act.put, List.setIfInBounds_toArray, List.set_cons_zero, List.set_cons_succ]
    refine anyT_take (i := 8) (v := ?ov8d) (by simp only [List.getElem?_toArray, List.getElem?_cons_succ, List.getElem?_cons_zero]; exact rfl) (by kernel_rfl) (by kernel_rfl) (fun _ _ _ h => h) (by kernel_rfl) (by kernel_rfl) (Or.inl ⟨by rfl, ?oy8d⟩) (by with_reducible exact HD.out.1) ?or8d
    case oy8d => (intro w hSw; obtain ⟨c0, c1, c2, c3, c4, c5, c6⟩ := hSw.cm; (try dsimp only at c0 c1 c2 c3 c4 c5 c6); go_simp; try with_reducible rfl)
    try simp only [Act.put, List.setIfInBounds_toArray, List.set_cons_zero, List.set_cons_succ]
    refine anyT_one (i := 3) (by kernel_rfl) (by simp only [List.getElem?_toArray, List.getElem?_cons_succ, List.getElem?_cons_zero]; exact rfl) (fun K hK => ?_)
    try go_simp
    refine (rbnum HD.out.2.1 c HL.out (by have := HQ.out; omega) (by have := HQ.out; omega)).mono ?_
    rintro e w3d ⟨y3d, rfl, hy, hb⟩
    have HD := hide (show (fun w' => Row w' w.heap.size 34 (rowC ⟨k, c, q, ka, kb, ko, kv⟩)) w3d ∧ By b0 w3d y3d ((zs ++ num7 k) ++ num7 c) ∧ Below w.heap.size w w3d from ⟨(fun hb h => Row.below h hb h.lt) hb HD.out.1, hy.mono (Nat.le_trans HBB.out HD.out.2.2.size), kept_trans HD.out.2.2 hb⟩)
    have HL := hide (show ((zs ++ num7 k) ++ num7 c).length ≤ 140737488354000 from by rw [len_two, len_two]; have := HL0.out; have := (num7_len k).2; have := (num7_len c).2; have := (num7_len q).2; have := (num7_len (ka.size : Int)).2; have := (num7_len (ko.size : Int)).2; have := (num7_len (kv.size : Int)).2; have := HSZ.out; omega)
    clear hy hb
    refine hK.out _ _ (fun _ => HD.out.1) ?_
    clear hK K
    try simp only [Act.put, List.setIfInBounds_toArray, List.set_cons_zero, List.set_cons_succ]
    refine anyT_one (i := 6) (by kernel_rfl) (by simp only [List.getElem?_toArray, List.getElem?_cons_succ, List.getElem?_cons_zero]; exact rfl) (fun K hK => ?_)
    try go_simp
    refine (rbnum HD.out.2.1 q HL.out (by have := HQ.out; omega) (by have := HQ.out; omega)).mono ?_
    rintro e w6d ⟨y6d, rfl, hy, hb⟩
    have HD := hide (show (fun w' => Row w' w.heap.size 34 (rowC ⟨k, c, q, ka, kb, ko, kv⟩)) w6d ∧ By b0 w6d y6d (((zs ++ num7 k) ++ num7 c) ++ num7 q) ∧ Below w.heap.size w w6d from ⟨(fun hb h => Row.below h hb h.lt) hb HD.out.1, hy.mono (Nat.le_trans HBB.out HD.out.2.2.size), kept_trans HD.out.2.2 hb⟩)
    have HL := hide (show (((zs ++ num7 k) ++ num7 c) ++ num7 q).length ≤ 140737488354000 from by rw [len_two, len_two, len_two]; have := HL0.out; have := (num7_len k).2; have := (num7_len c).2; have := (num7_len q).2; have := (num7_len (ka.size : Int)).2; have := (num7_len (ko.size : Int)).2; have := (num7_len (kv.size : Int)).2; have := HSZ.out; omega)
    clear hy hb
    refine hK.out _ _ (fun _ => HD.out.1) ?_
    clear hK K
    try simp only [Act.put, List.setIfInBounds_toArray, List.set_cons_zero, List.set_cons_succ]
    refine anyT_one (i := 9) (by kernel_rfl) (by simp only [List.getElem?_toArray, List.getElem?_cons_succ, List.getElem?_cons_zero]; exact rfl) (fun K hK => ?_)
    try go_simp
    refine (rbtext HD.out.2.1 ka HL.out (by have := HSZ.out; omega)).mono ?_
    rintro e w9d ⟨y9d, rfl, hy, hb⟩
    have HD := hide (show (fun w' => Row w' w.heap.size 34 (rowC ⟨k, c, q, ka, kb, ko, kv⟩)) w9d ∧ By b0 w9d y9d ((((zs ++ num7 k) ++ num7 c) ++ num7 q) ++ text7 ka) ∧ Below w.heap.size w w9d from ⟨(fun hb h => Row.below h hb h.lt) hb HD.out.1, hy.mono (Nat.le_trans HBB.out HD.out.2.2.size), kept_trans HD.out.2.2 hb⟩)
    have HL := hide (show ((((zs ++ num7 k) ++ num7 c) ++ num7 q) ++ text7 ka).length ≤ 140737488354000 from by rw [len_two, len_two, len_two, len_two, text7_len]; have := HL0.out; have := (num7_len k).2; have := (num7_len c).2; have := (num7_len q).2; have := (num7_len (ka.size : Int)).2; have := (num7_len (ko.size : Int)).2; have := (num7_len (kv.size : Int)).2; have := HSZ.out; omega)
    clear hy hb
    refine hK.out _ _ (fun _ => HD.out.1) ?_
    clear hK K
    try simp only [Act.put, List.setIfInBounds_toArray, List.set_cons_zero, List.set_cons_succ]
    refine anyT_one (i := 10) (by kernel_rfl) (by simp only [List.getElem?_toArray, List.getElem?_cons_succ, List.getElem?_cons_zero]; exact rfl) (fun K hK => ?_)
    try go_simp
    refine hK.out _ _ (fun e => absurd rfl e) ?_
    clear hK K
    refine anyT_done (by kernel_rfl) ?_
    refine NoPanic.normal ?_
    try simp only [Act.put]
    generalize w9d = w3, y9d = u3 at HD ⊢
    have HD3 := hide HD.out
    have HL3 := hide HL.out
    obtain ⟨c0, c1, c2, c3, c4, c5, c6⟩ := HD3.out.1.cm
    dsimp only at c0 c1 c2 c3 c4 c5 c6
    by_cases g2 : k = 2
    · subst g2
      have HT := hide (rbtext HD3.out.2.1 kv HL3.out (by have := HSZ.out; omega))
      go_wp2_with (go_at_call 123; (with_reducible refine HT.out.mono ?_); rintro e w4 ⟨u4, rfl, hy, hb⟩)
      go_ret
      refine ⟨_, rfl, ?_, kept_trans HD3.out.2.2 hb⟩
      have e : ((((zs ++ num7 2) ++ num7 c) ++ num7 q) ++ text7 ka) ++ text7 kv = zs ++ bytesC ⟨2, c, q, ka, kb, ko, kv⟩ := by unfold bytesC tailC; simp [List.append_assoc]
      rw [← e]
      exact hy.mono (Nat.le_trans HBB.out HD3.out.2.2.size)
    · by_cases g4 : k = 4
      · subst g4
        go_upto_region 9 with (fail)
        clear c0 c1 c2 c3 c4 c5 c6
        refine wp_region_noPanic ?_
        refine wp_region_T 7 (fun w' => Row w' w.heap.size 34 (rowC ⟨4, c, q, ka, kb, ko, kv⟩)) (by kernel_rfl) ?_
        have HD := hide (show (fun w' => Row w' w.heap.size 34 (rowC ⟨4, c, q, ka, kb, ko, kv⟩)) w3.drew ∧ By b0 w3.drew u3 ((((zs ++ num7 4) ++ num7 c) ++ num7 q) ++ text7 ka) ∧ Below w.heap.size w w3.drew from ⟨HD3.out.1.drewN 1, HD3.out.2.1.below (Below.refl _ _).drew, HD3.out.2.2.drew⟩)
        have HL := hide HL3.out
        generalize World.drew _ = wde at HD ⊢
        refine anyT_take (i := 0) (v := ?ov0e) (by simp only [List.getElem?_toArray, List.getElem?_cons_zero]; exact rfl) (by kernel_rfl) (by kernel_rfl) (fun _ _ _ h => h) (by kernel_rfl) (by kernel_rfl) (Or.inl ⟨by rfl, ?oy0e⟩) (by with_reducible exact HD.out.1) ?or0e
        case oy0e => (intro w hSw; skip; go_simp; try with_reducible rfl)
        try simp only [Act.put, List.setIfInBounds_toArray, List.set_cons_zero, List.set_cons_succ]
        refine anyT_take (i := 1) (v := ?ov1e) (by simp only [List.getElem?_toArray, List.getElem?_cons_succ, List.getElem?_cons_zero]; exact rfl) (by kernel_rfl) (by kernel_rfl) (fun _ _ _ h => h) (by kernel_rfl) (by kernel_rfl) (Or.inl ⟨by rfl, ?oy1e⟩) (by with_reducible exact HD.out.1) ?or1e
        case oy1e => (intro w hSw; skip; go_simp; try with_reducible rfl)
        try simp only [Act.put, List.setIfInBounds_toArray, List.set_cons_zero, List.set_cons_succ]
        refine anyT_take (i := 2) (v := ?ov2e) (by simp only [List.getElem?_toArray, List.getElem?_cons_succ, List.getElem?_cons_zero]; exact rfl) (by kernel_rfl) (by kernel_rfl) (fun _ _ _ h => h) (by kernel_rfl) (by kernel_rfl) (Or.inl ⟨by rfl, ?oy2e⟩) (by with_reducible exact HD.out.1) ?or2e
        case oy2e => (intro w hSw; obtain ⟨c0, c1, c2, c3, c4, c5, c6⟩ := hSw.cm; (try dsimp only at c0 c1 c2 c3 c4 c5 c6); go_simp; try with_reducible rfl)
        try simp only [Act.put, List.setIfInBounds_toArray, List.set_cons_zero, List.set_cons_succ]
        refine anyT_take (i := 4) (v := ?ov4e) (by simp only [List.getElem?_toArray, List.getElem?_cons_succ, List.getElem?_cons_zero]; exact rfl) (by kernel_rfl) (by kernel_rfl) (fun _ _ _ h => h) (by kernel_rfl) (by kernel_rfl) (Or.inl ⟨by rfl, ?oy4e⟩) (by with_reducible exact HD.out.1) ?or4e
        case oy4e => (intro w hSw; skip; go_simp; try with_reducible rfl)
        try simp only [Act.put, List.setIfInBounds_toArray, List.set_cons_zero, List.set_cons_succ]
        refine anyT_take (i := 5) (v := ?ov5e) (by simp only [List.getElem?_toArray, List.getElem?_cons_succ, List.getElem?_cons_zero]; exact rfl) (by kernel_rfl) (by kernel_rfl) (fun _ _ _ h => h) (by kernel_rfl) (by kernel_rfl) (Or.inl ⟨by rfl, ?oy5e⟩) (by with_reducible exact HD.out.1) ?or5e
        case oy5e => (intro w hSw; obtain ⟨c0, c1, c2, c3, c4, c5, c6⟩ := hSw.cm; (try dsimp only at c0 c1 c2 c3 c4 c5 c6); go_simp; try with_reducible rfl)
        try simp only [Act.put, List.setIfInBounds_toArray, List.set_cons_zero, List.set_cons_succ]
        refine anyT_one (i := 3) (by kernel_rfl) (by simp only [List.getElem?_toArray, List.getElem?_cons_succ, List.getElem?_cons_zero]; exact rfl) (fun K hK => ?_)
        try go_simp
        refine (rbtext HD.out.2.1 ko HL.out (by have := HSZ.out; omega)).mono ?_
        rintro e w3e ⟨y3e, rfl, hy, hb⟩
        have HD := hide (show (fun w' => Row w' w.heap.size 34 (rowC ⟨4, c, q, ka, kb, ko, kv⟩)) w3e ∧ By b0 w3e y3e (((((zs ++ num7 4) ++ num7 c) ++ num7 q) ++ text7 ka) ++ text7 ko) ∧ Below w.heap.size w w3e from ⟨(fun hb h => Row.below h hb h.lt) hb HD.out.1, hy.mono (Nat.le_trans HBB.out HD.out.2.2.size), kept_trans HD.out.2.2 hb⟩)
        have HL := hide (show (((((zs ++ num7 4) ++ num7 c) ++ num7 q) ++ text7 ka) ++ text7 ko).length ≤ 140737488354000 from by rw [len_two, len_two, len_two, len_two, len_two, text7_len, text7_len]; have := HL0.out; have := (num7_len 4).2; have := (num7_len c).2; have := (num7_len q).2; have := (num7_len (ka.size : Int)).2; have := (num7_len (ko.size : Int)).2; have := (num7_len (kv.size : Int)).2; have := HSZ.out; omega)
        clear hy hb
        refine hK.out _ _ (fun _ => HD.out.1) ?_
        clear hK K
        try simp only [Act.put, List.setIfInBounds_toArray, List.set_cons_zero, List.set_cons_succ]
        refine anyT_one (i := 6) (by kernel_rfl) (by simp only [List.getElem?_toArray, List.getElem?_cons_succ, List.getElem?_cons_zero]; exact rfl) (fun K hK => ?_)
        try go_simp
        refine (rbtext HD.out.2.1 kv HL.out (by have := HSZ.out; omega)).mono ?_
        rintro e w6e ⟨y6e, rfl, hy, hb⟩
        have HD := hide (show (fun w' => Row w' w.heap.size 34 (rowC ⟨4, c, q, ka, kb, ko, kv⟩)) w6e ∧ By b0 w6e y6e ((((((zs ++ num7 4) ++ num7 c) ++ num7 q) ++ text7 ka) ++ text7 ko) ++ text7 kv) ∧ Below w.heap.size w w6e from ⟨(fun hb h => Row.below h hb h.lt) hb HD.out.1, hy.mono (Nat.le_trans HBB.out HD.out.2.2.size), kept_trans HD.out.2.2 hb⟩)
        have HL := hide (show ((((((zs ++ num7 4) ++ num7 c) ++ num7 q) ++ text7 ka) ++ text7 ko) ++ text7 kv).length ≤ 140737488354000 from by rw [len_two, len_two, len_two, len_two, len_two, len_two, text7_len, text7_len, text7_len]; have := HL0.out; have := (num7_len 4).2; have := (num7_len c).2; have := (num7_len q).2; have := (num7_len (ka.size : Int)).2; have := (num7_len (ko.size : Int)).2; have := (num7_len (kv.size : Int)).2; have := HSZ.out; omega)
        clear hy hb
        refine hK.out _ _ (fun _ => HD.out.1) ?_
        clear hK K
        try simp only [Act.put, List.setIfInBounds_toArray, List.set_cons_zero, List.set_cons_succ]
        refine anyT_one (i := 7) (by kernel_rfl) (by simp only [List.getElem?_toArray, List.getElem?_cons_succ, List.getElem?_cons_zero]; exact rfl) (fun K hK => ?_)
        try go_simp
        refine hK.out _ _ (fun e => absurd rfl e) ?_
        clear hK K
        refine anyT_done (by kernel_rfl) ?_
        refine NoPanic.normal ?_
        try simp only [Act.put]
        go_wp2
        go_ret
        refine ⟨_, rfl, ?_, HD.out.2.2⟩
        have e : (((((zs ++ num7 4) ++ num7 c) ++ num7 q) ++ text7 ka) ++ text7 ko) ++ text7 kv = zs ++ bytesC ⟨4, c, q, ka, kb, ko, kv⟩ := by unfold bytesC tailC; simp [List.append_assoc]
        rw [← e]
        exact HD.out.2.1
      · by_cases g5 : k = 5
        · subst g5
          have HT := hide (rbtext HD3.out.2.1 kb HL3.out (by have := HSZ.out; omega))
          go_wp2_with (go_at_call 123; (with_reducible refine HT.out.mono ?_); rintro e w4 ⟨u4, rfl, hy, hb⟩)
          go_ret
          refine ⟨_, rfl, ?_, kept_trans HD3.out.2.2 hb⟩
          have e : ((((zs ++ num7 5) ++ num7 c) ++ num7 q) ++ text7 ka) ++ text7 kb = zs ++ bytesC ⟨5, c, q, ka, kb, ko, kv⟩ := by unfold bytesC tailC; simp [List.append_assoc]
          rw [← e]
          exact hy.mono (Nat.le_trans HBB.out HD3.out.2.2.size)
        · go_wp2
          go_ret
          refine ⟨_, rfl, ?_, HD3.out.2.2⟩
          have e : (((zs ++ num7 k) ++ num7 c) ++ num7 q) ++ text7 ka = zs ++ bytesC ⟨k, c, q, ka, kb, ko, kv⟩ := by unfold bytesC tailC; simp [List.append_assoc, hk, g2, g4, g5]
          rw [← e]
          exact HD3.out.2.1
end Go.Proofs.YtiaegloipnhhdaaGreat
/- The document's PutCell: a right cell's bytes behind any bytes. Conditions: the slice lies, lengths have room, the cell is right. -/
namespace Go.Proofs.YtiaegloipnhhdaaGreat
set_option maxRecDepth 100000
open Go.RowKit
/-- A slice of bytes that lies, whosever it is. -/
def Slv (w : World) (v : Value) (zs : List Int) : Prop := ∃ A c, v = .slice A zs.length c ∧ Lies w A zs ∧ (A = none → c = 0)
theorem By.sl {b : Nat} {w : World} {v : Value} {zs : List Int} (h : By b w v zs) : Slv w v zs := by
  obtain ⟨A, c, e, hA, _, _, hl⟩ := h.form
  exact ⟨A, c, e, hl, hA⟩
theorem Slv.below {w w' : World} {v : Value} {zs : List Int} (h : Slv w v zs) (hb : Below w.heap.size w w') : Slv w' v zs := by
  obtain ⟨A, c, e, hl, hA⟩ := h
  exact ⟨A, c, e, hl.below hb, hA⟩
theorem rnum_sl {w : World} {v : Value} {zs : List Int} (h : Slv w v zs) (m : Int) (ln : zs.length ≤ 140737488354000) (hm : I64 m) : Calls Tryz.prog 83 #[v, .int .i64 m] w (MadeB w (zs ++ num7 m)) := by
  obtain ⟨A, c, rfl, hl, hA⟩ := h
  exact (rnum_any A _ c zs m w rfl hl hA (by omega) hm.1 hm.2).mono fun _ _ z => by_of (by rw [List.length_append]) z
set_option maxHeartbeats 8000000 in
theorem rputcell_any {v : Value} {zs : List Int} {w : World} (hv : Slv w v zs) (hl : zs.length ≤ 140737488353000) (x : Cl) (h8 : x.a.length = 8) (hr : rightCl x = true) :
    Calls Tryz.prog 46 #[v, .agg (clC x)] w (MadeB w (zs ++ encX x)) := by
  have ok := hide (rightCl_says hr)
  obtain ⟨a0, a1, a2, a3, a4, a5, a6, a7, ha⟩ := len8 h8
  have HA := hide (rightAl_says ok.out.a h8)
  obtain ⟨st, ⟨p1, p2⟩, ⟨v1, v2⟩, ⟨ck, cc, cq, ca, cb, co, cv⟩, a, s⟩ := x
  dsimp only at ha h8 ok HA
  subst ha
  have HL0 := hide hl
  have HB0 := hide ((Below.refl w.heap.size w).alloc (Nat.le_refl _) (.cells (clC ⟨st, (p1, p2), (v1, v2), ⟨ck, cc, cq, ca, cb, co, cv⟩, [a0, a1, a2, a3, a4, a5, a6, a7], s⟩) 38))
  have HV := hide (hv.below HB0.out)
  have CE := hide (CeAt.new (x := ⟨st, (p1, p2), (v1, v2), ⟨ck, cc, cq, ca, cb, co, cv⟩, [a0, a1, a2, a3, a4, a5, a6, a7], s⟩) h8 w 38)
  clear hv hl hr h8
  go_enter Tryz.func46, Tryz.ntmps46
  go_upto_region 1 with (fail)
  generalize w.alloc (.cells (clC _) 38) = w1 at CE HB0 HV ⊢
  refine wp_region_noPanic ?_
  refine wp_region_T 7 (fun w' => CeAt w' w.heap.size 38 ⟨st, (p1, p2), (v1, v2), ⟨ck, cc, cq, ca, cb, co, cv⟩, [a0, a1, a2, a3, a4, a5, a6, a7], s⟩) (by kernel_rfl) ?_
  have HD := hide (show (fun w' => CeAt w' w.heap.size 38 ⟨st, (p1, p2), (v1, v2), ⟨ck, cc, cq, ca, cb, co, cv⟩, [a0, a1, a2, a3, a4, a5, a6, a7], s⟩) w1.drew ∧ Slv w1.drew v zs ∧ Below w.heap.size w w1.drew from ⟨CE.out.drew, HV.out.below (Below.refl _ _).drew, HB0.out.drew⟩)
  generalize World.drew _ = wda at HD ⊢
  refine anyT_take (i := 0) (v := ?ov0a) (by simp only [List.getElem?_toArray, List.getElem?_cons_zero]; exact rfl) (by kernel_rfl) (by kernel_rfl) (fun _ _ _ h => h) (by kernel_rfl) (by kernel_rfl) (Or.inl ⟨by rfl, ?oy0a⟩) (by with_reducible exact HD.out.1) ?or0a
  case oy0a => (intro w hSw; skip; go_simp; try with_reducible rfl)
  try simp only [Act.put, List.setIfInBounds_toArray, List.set_cons_zero, List.set_cons_succ]
  refine anyT_take (i := 1) (v := ?ov1a) (by simp only [List.getElem?_toArray, List.getElem?_cons_succ, List.getElem?_cons_zero]; exact rfl) (by kernel_rfl) (by kernel_rfl) (fun _ _ _ h => h) (by kernel_rfl) (by kernel_rfl) (Or.inl ⟨by rfl, ?oy1a⟩) (by with_reducible exact HD.out.1) ?or1a
  case oy1a => (intro w hSw; skip; go_simp; try with_reducible rfl)
  try simp only [Act.put, List.setIfInBounds_toArray, List.set_cons_zero, List.set_cons_succ]
  refine anyT_take (i := 2) (v := ?ov2a) (by simp only [List.getElem?_toArray, List.getElem?_cons_succ, List.getElem?_cons_zero]; exact rfl) (by kernel_rfl) (by kernel_rfl) (fun _ _ _ h => h) (by kernel_rfl) (by kernel_rfl) (Or.inl ⟨by rfl, ?oy2a⟩) (by with_reducible exact HD.out.1) ?or2a
  case oy2a => (intro w hSw; obtain ⟨c0, c1, c2, c3, c4, c5, c6, c7, c8, c9, c10, c11, c12, c13, c14, c15, c16, c17, c18, c19, c20⟩ := hSw.cells rfl; (try dsimp only at c0 c1 c2 c3 c4 c5 c6 c7 c8 c9 c10 c11 c20); go_simp; try with_reducible rfl)
  try simp only [Act.put, List.setIfInBounds_toArray, List.set_cons_zero, List.set_cons_succ]
  refine anyT_take (i := 4) (v := ?ov4a) (by simp only [List.getElem?_toArray, List.getElem?_cons_succ, List.getElem?_cons_zero]; exact rfl) (by kernel_rfl) (by kernel_rfl) (fun _ _ _ h => h) (by kernel_rfl) (by kernel_rfl) (Or.inl ⟨by rfl, ?oy4a⟩) (by with_reducible exact HD.out.1) ?or4a
  case oy4a => (intro w hSw; skip; go_simp; try with_reducible rfl)
  try simp only [Act.put, List.setIfInBounds_toArray, List.set_cons_zero, List.set_cons_succ]
  refine anyT_take (i := 5) (v := ?ov5a) (by simp only [List.getElem?_toArray, List.getElem?_cons_succ, List.getElem?_cons_zero]; exact rfl) (by kernel_rfl) (by kernel_rfl) (fun _ _ _ h => h) (by kernel_rfl) (by kernel_rfl) (Or.inl ⟨by rfl, ?oy5a⟩) (by with_reducible exact HD.out.1) ?or5a
  case oy5a => (intro w hSw; obtain ⟨c0, c1, c2, c3, c4, c5, c6, c7, c8, c9, c10, c11, c12, c13, c14, c15, c16, c17, c18, c19, c20⟩ := hSw.cells rfl; (try dsimp only at c0 c1 c2 c3 c4 c5 c6 c7 c8 c9 c10 c11 c20); go_simp; try with_reducible rfl)
  try simp only [Act.put, List.setIfInBounds_toArray, List.set_cons_zero, List.set_cons_succ]
  refine anyT_one (i := 3) (by kernel_rfl) (by simp only [List.getElem?_toArray, List.getElem?_cons_succ, List.getElem?_cons_zero]; exact rfl) (fun K hK => ?_)
  try go_simp
  refine (rnum_sl HD.out.2.1 st (by have := HL0.out; omega) (small ok.out.st.1 (by have := ok.out.st; dsimp only at this; omega))).mono ?_
  rintro e w3a ⟨y3a, rfl, hy, hb⟩
  have HD := hide (show (fun w' => CeAt w' w.heap.size 38 ⟨st, (p1, p2), (v1, v2), ⟨ck, cc, cq, ca, cb, co, cv⟩, [a0, a1, a2, a3, a4, a5, a6, a7], s⟩) w3a ∧ By w.heap.size w3a y3a (zs ++ num7 st) ∧ Below w.heap.size w w3a from ⟨(fun hb h => CeAt.kept h hb) hb HD.out.1, hy.mono HD.out.2.2.size, kept_trans HD.out.2.2 hb⟩)
  have HL := hide (show (zs ++ num7 st).length ≤ 140737488354000 from by rw [len_two]; have := HL0.out; have := (num7_len st).2; have := encB_len (p1, p2); have := encB_len (v1, v2); have := packC_len ⟨ck, cc, cq, ca, cb, co, cv⟩; have := (encN_len [a0, a1, a2, a3, a4, a5, a6, a7]).2; have : ([a0, a1, a2, a3, a4, a5, a6, a7] : List Int).length = 8 := rfl; have : (flg7 s).length = 1 := rfl; omega)
  clear hy hb
  refine hK.out _ _ (fun _ => HD.out.1) ?_
  clear hK K
  try simp only [Act.put, List.setIfInBounds_toArray, List.set_cons_zero, List.set_cons_succ]
  refine anyT_one (i := 6) (by kernel_rfl) (by simp only [List.getElem?_toArray, List.getElem?_cons_succ, List.getElem?_cons_zero]; exact rfl) (fun K hK => ?_)
  try go_simp
  refine (rballot_by HD.out.2.1 (by have := HL0.out; have := (num7_len st).2; rw [len_two]; omega) (p1, p2) (small ok.out.p.1.1 ok.out.p.1.2) (small ok.out.p.2.1 (by have := ok.out.p; dsimp only at this; omega)) HD.out.2.2.size).mono ?_
  rintro e w6a ⟨y6a, rfl, hy, hb⟩
  have HD := hide (show (fun w' => CeAt w' w.heap.size 38 ⟨st, (p1, p2), (v1, v2), ⟨ck, cc, cq, ca, cb, co, cv⟩, [a0, a1, a2, a3, a4, a5, a6, a7], s⟩) w6a ∧ By w.heap.size w6a y6a ((zs ++ num7 st) ++ encB (p1, p2)) ∧ Below w.heap.size w w6a from ⟨(fun hb h => CeAt.kept h hb) hb HD.out.1, hy, kept_trans HD.out.2.2 hb⟩)
  have HL := hide (show ((zs ++ num7 st) ++ encB (p1, p2)).length ≤ 140737488354000 from by rw [len_two, len_two]; have := HL0.out; have := (num7_len st).2; have := encB_len (p1, p2); have := encB_len (v1, v2); have := packC_len ⟨ck, cc, cq, ca, cb, co, cv⟩; have := (encN_len [a0, a1, a2, a3, a4, a5, a6, a7]).2; have : ([a0, a1, a2, a3, a4, a5, a6, a7] : List Int).length = 8 := rfl; have : (flg7 s).length = 1 := rfl; omega)
  clear hy hb
  refine hK.out _ _ (fun _ => HD.out.1) ?_
  clear hK K
  try simp only [Act.put, List.setIfInBounds_toArray, List.set_cons_zero, List.set_cons_succ]
  refine anyT_one (i := 7) (by kernel_rfl) (by simp only [List.getElem?_toArray, List.getElem?_cons_succ, List.getElem?_cons_zero]; exact rfl) (fun K hK => ?_)
  try go_simp
  refine hK.out _ _ (fun e => absurd rfl e) ?_
  clear hK K
  refine anyT_done (by kernel_rfl) ?_
  refine NoPanic.normal ?_
  try simp only [Act.put]
  generalize w6a = w2, y6a = u2 at HD ⊢
  have HD2 := hide HD.out
  have HL2 := hide HL.out
  obtain ⟨c0, c1, c2, c3, c4, c5, c6, c7, c8, c9, c10, c11, c12, c13, c14, c15, c16, c17, c18, c19, c20⟩ := HD2.out.1.cells rfl
  dsimp only at c0
  clear c1 c2 c3 c4 c5 c6 c7 c8 c9 c10 c11 c12 c13 c14 c15 c16 c17 c18 c19 c20 HD HL
  by_cases h0 : st = 0
  · subst h0
    go_wp2
    go_ret
    refine ⟨_, rfl, ?_, HD2.out.2.2⟩
    have e : (zs ++ num7 0) ++ encB (p1, p2) = zs ++ encX ⟨0, (p1, p2), (v1, v2), ⟨ck, cc, cq, ca, cb, co, cv⟩, [a0, a1, a2, a3, a4, a5, a6, a7], s⟩ := by unfold encX encT; simp [List.append_assoc]
    rw [← e]
    exact HD2.out.2.1
  · go_upto_region 4 with (fail)
    clear c0
    refine wp_region_noPanic ?_
    refine wp_region_T 13 (fun w' => CeAt w' w.heap.size 38 ⟨st, (p1, p2), (v1, v2), ⟨ck, cc, cq, ca, cb, co, cv⟩, [a0, a1, a2, a3, a4, a5, a6, a7], s⟩) (by kernel_rfl) ?_
    have HD := hide (show (fun w' => CeAt w' w.heap.size 38 ⟨st, (p1, p2), (v1, v2), ⟨ck, cc, cq, ca, cb, co, cv⟩, [a0, a1, a2, a3, a4, a5, a6, a7], s⟩) w2.drew ∧ By w.heap.size w2.drew u2 ((zs ++ num7 st) ++ encB (p1, p2)) ∧ Below w.heap.size w w2.drew from ⟨HD2.out.1.drew, HD2.out.2.1.below (Below.refl _ _).drew, HD2.out.2.2.drew⟩)
    generalize World.drew _ = wdb at HD ⊢
    refine anyT_take (i := 0) (v := ?ov0b) (by simp only [List.getElem?_toArray, List.getElem?_cons_zero]; exact rfl) (by kernel_rfl) (by kernel_rfl) (fun _ _ _ h => h) (by kernel_rfl) (by kernel_rfl) (Or.inl ⟨by rfl, ?oy0b⟩) (by with_reducible exact HD.out.1) ?or0b
    case oy0b => (intro w hSw; skip; go_simp; try with_reducible rfl)
    try simp only [Act.put, List.setIfInBounds_toArray, List.set_cons_zero, List.set_cons_succ]
    refine anyT_take (i := 1) (v := ?ov1b) (by simp only [List.getElem?_toArray, List.getElem?_cons_succ, List.getElem?_cons_zero]; exact rfl) (by kernel_rfl) (by kernel_rfl) (fun _ _ _ h => h) (by kernel_rfl) (by kernel_rfl) (Or.inl ⟨by rfl, ?oy1b⟩) (by with_reducible exact HD.out.1) ?or1b
    case oy1b => (intro w hSw; skip; go_simp; try with_reducible rfl)
    try simp only [Act.put, List.setIfInBounds_toArray, List.set_cons_zero, List.set_cons_succ]
    refine anyT_take (i := 2) (v := ?ov2b) (by simp only [List.getElem?_toArray, List.getElem?_cons_succ, List.getElem?_cons_zero]; exact rfl) (by kernel_rfl) (by kernel_rfl) (fun _ _ _ h => h) (by kernel_rfl) (by kernel_rfl) (Or.inl ⟨by rfl, ?oy2b⟩) (by with_reducible exact HD.out.1) ?or2b
    case oy2b => (intro w hSw; obtain ⟨c0, c1, c2, c3, c4, c5, c6, c7, c8, c9, c10, c11, c12, c13, c14, c15, c16, c17, c18, c19, c20⟩ := hSw.cells rfl; (try dsimp only at c0 c1 c2 c3 c4 c5 c6 c7 c8 c9 c10 c11 c20); go_simp; try with_reducible rfl)
    try simp only [Act.put, List.setIfInBounds_toArray, List.set_cons_zero, List.set_cons_succ]
    refine anyT_take (i := 4) (v := ?ov4b) (by simp only [List.getElem?_toArray, List.getElem?_cons_succ, List.getElem?_cons_zero]; exact rfl) (by kernel_rfl) (by kernel_rfl) (fun _ _ _ h => h) (by kernel_rfl) (by kernel_rfl) (Or.inl ⟨by rfl, ?oy4b⟩) (by with_reducible exact HD.out.1) ?or4b
    case oy4b => (intro w hSw; skip; go_simp; try with_reducible rfl)
    try simp only [Act.put, List.setIfInBounds_toArray, List.set_cons_zero, List.set_cons_succ]
    refine anyT_take (i := 5) (v := ?ov5b) (by simp only [List.getElem?_toArray, List.getElem?_cons_succ, List.getElem?_cons_zero]; exact rfl) (by kernel_rfl) (by kernel_rfl) (fun _ _ _ h => h) (by kernel_rfl) (by kernel_rfl) (Or.inl ⟨by rfl, ?oy5b⟩) (by with_reducible exact HD.out.1) ?or5b
    case oy5b => (intro w hSw; obtain ⟨c0, c1, c2, c3, c4, c5, c6, c7, c8, c9, c10, c11, c12, c13, c14, c15, c16, c17, c18, c19, c20⟩ := hSw.cells rfl; (try dsimp only at c0 c1 c2 c3 c4 c5 c6 c7 c8 c9 c10 c11 c20); go_simp; try with_reducible rfl)
    try simp only [Act.put, List.setIfInBounds_toArray, List.set_cons_zero, List.set_cons_succ]
    refine anyT_take (i := 7) (v := ?ov7b) (by simp only [List.getElem?_toArray, List.getElem?_cons_succ, List.getElem?_cons_zero]; exact rfl) (by kernel_rfl) (by kernel_rfl) (fun _ _ _ h => h) (by kernel_rfl) (by kernel_rfl) (Or.inl ⟨by rfl, ?oy7b⟩) (by with_reducible exact HD.out.1) ?or7b
    case oy7b => (intro w hSw; skip; go_simp; try with_reducible rfl)
    try simp only [Act.put, List.setIfInBounds_toArray, List.set_cons_zero, List.set_cons_succ]
    refine anyT_take (i := 8) (v := ?ov8b) (by simp only [List.getElem?_toArray, List.getElem?_cons_succ, List.getElem?_cons_zero]; exact rfl) (by kernel_rfl) (by kernel_rfl) (fun _ _ _ h => h) (by kernel_rfl) (by kernel_rfl) (Or.inl ⟨by rfl, ?oy8b⟩) (by with_reducible exact HD.out.1) ?or8b
    case oy8b => (intro w hSw; obtain ⟨c0, c1, c2, c3, c4, c5, c6, c7, c8, c9, c10, c11, c12, c13, c14, c15, c16, c17, c18, c19, c20⟩ := hSw.cells rfl; (try dsimp only at c0 c1 c2 c3 c4 c5 c6 c7 c8 c9 c10 c11 c20); go_simp; try with_reducible rfl)
    try simp only [Act.put, List.setIfInBounds_toArray, List.set_cons_zero, List.set_cons_succ]
    refine anyT_take (i := 10) (v := ?ov10b) (by simp only [List.getElem?_toArray, List.getElem?_cons_succ, List.getElem?_cons_zero]; exact rfl) (by kernel_rfl) (by kernel_rfl) (fun _ _ _ h => h) (by kernel_rfl) (by kernel_rfl) (Or.inl ⟨by rfl, ?oy10b⟩) (by with_reducible exact HD.out.1) ?or10b
    case oy10b => (intro w hSw; skip; go_simp; try with_reducible rfl)
    try simp only [Act.put, List.setIfInBounds_toArray, List.set_cons_zero, List.set_cons_succ]
    refine anyT_take (i := 11) (v := ?ov11b) (by simp only [List.getElem?_toArray, List.getElem?_cons_succ, List.getElem?_cons_zero]; exact rfl) (by kernel_rfl) (by kernel_rfl) (fun _ _ _ h => h) (by kernel_rfl) (by kernel_rfl) (Or.inl ⟨by rfl, ?oy11b⟩) (by with_reducible exact HD.out.1) ?or11b
    case oy11b => (intro w hSw; obtain ⟨c0, c1, c2, c3, c4, c5, c6, c7, c8, c9, c10, c11, c12, c13, c14, c15, c16, c17, c18, c19, c20⟩ := hSw.cells rfl; (try dsimp only at c0 c1 c2 c3 c4 c5 c6 c7 c8 c9 c10 c11 c20); go_simp; try with_reducible rfl)
    try simp only [Act.put, List.setIfInBounds_toArray, List.set_cons_zero, List.set_cons_succ]
    refine anyT_one (i := 3) (by kernel_rfl) (by simp only [List.getElem?_toArray, List.getElem?_cons_succ, List.getElem?_cons_zero]; exact rfl) (fun K hK => ?_)
    try go_simp
    refine (rballot_by HD.out.2.1 (by rw [len_two, len_two]; have := HL0.out; have := (num7_len st).2; have := encB_len (p1, p2); have := encB_len (v1, v2); have := packC_len ⟨ck, cc, cq, ca, cb, co, cv⟩; have := (encN_len [a0, a1, a2, a3, a4, a5, a6, a7]).2; have : ([a0, a1, a2, a3, a4, a5, a6, a7] : List Int).length = 8 := rfl; have : (flg7 s).length = 1 := rfl; omega) (v1, v2) (small ok.out.v.1.1 ok.out.v.1.2) (small ok.out.v.2.1 (by have := ok.out.v; dsimp only at this; omega)) HD.out.2.2.size).mono ?_
    rintro e w3b ⟨y3b, rfl, hy, hb⟩
    have HD := hide (show (fun w' => CeAt w' w.heap.size 38 ⟨st, (p1, p2), (v1, v2), ⟨ck, cc, cq, ca, cb, co, cv⟩, [a0, a1, a2, a3, a4, a5, a6, a7], s⟩) w3b ∧ By w.heap.size w3b y3b (((zs ++ num7 st) ++ encB (p1, p2)) ++ encB (v1, v2)) ∧ Below w.heap.size w w3b from ⟨(fun hb h => CeAt.kept h hb) hb HD.out.1, hy, kept_trans HD.out.2.2 hb⟩)
    have HL := hide (show (((zs ++ num7 st) ++ encB (p1, p2)) ++ encB (v1, v2)).length ≤ 140737488354000 from by rw [len_two, len_two, len_two]; have := HL0.out; have := (num7_len st).2; have := encB_len (p1, p2); have := encB_len (v1, v2); have := packC_len ⟨ck, cc, cq, ca, cb, co, cv⟩; have := (encN_len [a0, a1, a2, a3, a4, a5, a6, a7]).2; have : ([a0, a1, a2, a3, a4, a5, a6, a7] : List Int).length = 8 := rfl; have : (flg7 s).length = 1 := rfl; omega)
    clear hy hb
    refine hK.out _ _ (fun _ => HD.out.1) ?_
    clear hK K
    try simp only [Act.put, List.setIfInBounds_toArray, List.set_cons_zero, List.set_cons_succ]
    refine anyT_one (i := 6) (by kernel_rfl) (by simp only [List.getElem?_toArray, List.getElem?_cons_succ, List.getElem?_cons_zero]; exact rfl) (fun K hK => ?_)
    try go_simp
    refine (rcommand_by HD.out.2.1 (by rw [len_two, len_two, len_two]; have := HL0.out; have := (num7_len st).2; have := encB_len (p1, p2); have := encB_len (v1, v2); have := packC_len ⟨ck, cc, cq, ca, cb, co, cv⟩; have := (encN_len [a0, a1, a2, a3, a4, a5, a6, a7]).2; have : ([a0, a1, a2, a3, a4, a5, a6, a7] : List Int).length = 8 := rfl; have : (flg7 s).length = 1 := rfl; omega) ⟨ck, cc, cq, ca, cb, co, cv⟩ ok.out.c HD.out.2.2.size).mono ?_
    rintro e w6b ⟨y6b, rfl, hy, hb⟩
    have HD := hide (show (fun w' => CeAt w' w.heap.size 38 ⟨st, (p1, p2), (v1, v2), ⟨ck, cc, cq, ca, cb, co, cv⟩, [a0, a1, a2, a3, a4, a5, a6, a7], s⟩) w6b ∧ By w.heap.size w6b y6b ((((zs ++ num7 st) ++ encB (p1, p2)) ++ encB (v1, v2)) ++ packC ⟨ck, cc, cq, ca, cb, co, cv⟩) ∧ Below w.heap.size w w6b from ⟨(fun hb h => CeAt.kept h hb) hb HD.out.1, hy, kept_trans HD.out.2.2 hb⟩)
    have HL := hide (show ((((zs ++ num7 st) ++ encB (p1, p2)) ++ encB (v1, v2)) ++ packC ⟨ck, cc, cq, ca, cb, co, cv⟩).length ≤ 140737488354000 from by rw [len_two, len_two, len_two, len_two]; have := HL0.out; have := (num7_len st).2; have := encB_len (p1, p2); have := encB_len (v1, v2); have := packC_len ⟨ck, cc, cq, ca, cb, co, cv⟩; have := (encN_len [a0, a1, a2, a3, a4, a5, a6, a7]).2; have : ([a0, a1, a2, a3, a4, a5, a6, a7] : List Int).length = 8 := rfl; have : (flg7 s).length = 1 := rfl; omega)
    clear hy hb
    refine hK.out _ _ (fun _ => HD.out.1) ?_
    clear hK K
    try simp only [Act.put, List.setIfInBounds_toArray, List.set_cons_zero, List.set_cons_succ]
    refine anyT_one (i := 9) (by kernel_rfl) (by simp only [List.getElem?_toArray, List.getElem?_cons_succ, List.getElem?_cons_zero]; exact rfl) (fun K hK => ?_)
    try go_simp
    refine (rattr_by (a := [a0, a1, a2, a3, a4, a5, a6, a7]) HD.out.2.1 (by rw [len_two, len_two, len_two, len_two]; have := HL0.out; have := (num7_len st).2; have := encB_len (p1, p2); have := encB_len (v1, v2); have := packC_len ⟨ck, cc, cq, ca, cb, co, cv⟩; have := (encN_len [a0, a1, a2, a3, a4, a5, a6, a7]).2; have : ([a0, a1, a2, a3, a4, a5, a6, a7] : List Int).length = 8 := rfl; have : (flg7 s).length = 1 := rfl; omega) rfl HA.out HD.out.2.2.size).mono ?_
    rintro e w9b ⟨y9b, rfl, hy, hb⟩
    have HD := hide (show (fun w' => CeAt w' w.heap.size 38 ⟨st, (p1, p2), (v1, v2), ⟨ck, cc, cq, ca, cb, co, cv⟩, [a0, a1, a2, a3, a4, a5, a6, a7], s⟩) w9b ∧ By w.heap.size w9b y9b (((((zs ++ num7 st) ++ encB (p1, p2)) ++ encB (v1, v2)) ++ packC ⟨ck, cc, cq, ca, cb, co, cv⟩) ++ encN [a0, a1, a2, a3, a4, a5, a6, a7]) ∧ Below w.heap.size w w9b from ⟨(fun hb h => CeAt.kept h hb) hb HD.out.1, hy, kept_trans HD.out.2.2 hb⟩)
    have HL := hide (show (((((zs ++ num7 st) ++ encB (p1, p2)) ++ encB (v1, v2)) ++ packC ⟨ck, cc, cq, ca, cb, co, cv⟩) ++ encN [a0, a1, a2, a3, a4, a5, a6, a7]).length ≤ 140737488354000 from by rw [len_two, len_two, len_two, len_two, len_two]; have := HL0.out; have := (num7_len st).2; have := encB_len (p1, p2); have := encB_len (v1, v2); have := packC_len ⟨ck, cc, cq, ca, cb, co, cv⟩; have := (encN_len [a0, a1, a2, a3, a4, a5, a6, a7]).2; have : ([a0, a1, a2, a3, a4, a5, a6, a7] : List Int).length = 8 := rfl; have : (flg7 s).length = 1 := rfl; omega)
    clear hy hb
    refine hK.out _ _ (fun _ => HD.out.1) ?_
    clear hK K
    try simp only [Act.put, List.setIfInBounds_toArray, List.set_cons_zero, List.set_cons_succ]
    refine anyT_one (i := 12) (by kernel_rfl) (by simp only [List.getElem?_toArray, List.getElem?_cons_succ, List.getElem?_cons_zero]; exact rfl) (fun K hK => ?_)
    try go_simp
    refine (rbflag HD.out.2.1 s HL.out).mono ?_
    rintro e w12b ⟨y12b, rfl, hy, hb⟩
    have HD := hide (show (fun w' => CeAt w' w.heap.size 38 ⟨st, (p1, p2), (v1, v2), ⟨ck, cc, cq, ca, cb, co, cv⟩, [a0, a1, a2, a3, a4, a5, a6, a7], s⟩) w12b ∧ By w.heap.size w12b y12b ((((((zs ++ num7 st) ++ encB (p1, p2)) ++ encB (v1, v2)) ++ packC ⟨ck, cc, cq, ca, cb, co, cv⟩) ++ encN [a0, a1, a2, a3, a4, a5, a6, a7]) ++ flg7 s) ∧ Below w.heap.size w w12b from ⟨(fun hb h => CeAt.kept h hb) hb HD.out.1, hy.mono HD.out.2.2.size, kept_trans HD.out.2.2 hb⟩)
    have HL := hide (show ((((((zs ++ num7 st) ++ encB (p1, p2)) ++ encB (v1, v2)) ++ packC ⟨ck, cc, cq, ca, cb, co, cv⟩) ++ encN [a0, a1, a2, a3, a4, a5, a6, a7]) ++ flg7 s).length ≤ 140737488354000 from by rw [len_two, len_two, len_two, len_two, len_two, len_two]; have := HL0.out; have := (num7_len st).2; have := encB_len (p1, p2); have := encB_len (v1, v2); have := packC_len ⟨ck, cc, cq, ca, cb, co, cv⟩; have := (encN_len [a0, a1, a2, a3, a4, a5, a6, a7]).2; have : ([a0, a1, a2, a3, a4, a5, a6, a7] : List Int).length = 8 := rfl; have : (flg7 s).length = 1 := rfl; omega)
    clear hy hb
    refine hK.out _ _ (fun _ => HD.out.1) ?_
    clear hK K
    try simp only [Act.put, List.setIfInBounds_toArray, List.set_cons_zero, List.set_cons_succ]
    refine anyT_one (i := 13) (by kernel_rfl) (by simp only [List.getElem?_toArray, List.getElem?_cons_succ, List.getElem?_cons_zero]; exact rfl) (fun K hK => ?_)
    try go_simp
    refine hK.out _ _ (fun e => absurd rfl e) ?_
    clear hK K
    refine anyT_done (by kernel_rfl) ?_
    refine NoPanic.normal ?_
    try simp only [Act.put]
    go_wp2
    go_ret
    refine ⟨_, rfl, ?_, HD.out.2.2⟩
    have e : (((((zs ++ num7 st) ++ encB (p1, p2)) ++ encB (v1, v2)) ++ packC ⟨ck, cc, cq, ca, cb, co, cv⟩) ++ encN [a0, a1, a2, a3, a4, a5, a6, a7]) ++ flg7 s = zs ++ encX ⟨st, (p1, p2), (v1, v2), ⟨ck, cc, cq, ca, cb, co, cv⟩, [a0, a1, a2, a3, a4, a5, a6, a7], s⟩ := by unfold encX encT; simp [List.append_assoc, h0]
    rw [← e]
    exact HD.out.2.1
end Go.Proofs.YtiaegloipnhhdaaGreat
