/- While the program's Attr goes on. No condition: no walk. -/
import Derived.Test.YtfihcgimgngmhaaVg
import Derived.Test.YtfihcgimgngmhaaRc
import Derived.Test.YtfihcgimgngmhaaVd
import Derived.LoopTactic
import Derived.Deep.DeepCutAuto
import Derived.BigQuiet
import Derived.Lib.MinMax
namespace Go.Proofs.Ytfihcgimgngmhaa
set_option maxRecDepth 100000
open Go.RowKit Go.Maps
/-! ### Plain -/
def hangF (k : List En) (r s : Int) (c : Cm) (a : Int × List Int) : Int × List Int := k.foldl (hang r s c) a
theorem hangF_perm {k l : List En} (h : k.Perm l) (r s : Int) (c : Cm) (a : Int × List Int) : hangF k r s c a = hangF l r s c a := h.foldl_eq' (fun x _ y _ z => hang_comm r s c z x y) a
theorem hangF_snoc (k : List En) (e : En) (r s : Int) (c : Cm) (a : Int × List Int) : hangF (k ++ [e]) r s c a = hang r s c (hangF k r s c a) e := by unfold hangF; rw [List.foldl_append]; rfl
theorem hangF_len (r s : Int) (c : Cm) : ∀ (k : List En) (a : Int × List Int), (hangF k r s c a).2.length = a.2.length
  | [], _ => rfl
  | e :: k, a => (hangF_len r s c k (hang r s c a e)).trans (hang_len r s c a e)
/-- The greater of two rows, place by place. -/
def joinM (x y : List Int) : List Int := (List.range 7).map fun k => max (ix x k) (ix y k)
theorem joinM_ix (x y : List Int) {k : Nat} (hk : k < 7) : ix (joinM x y) k = max (ix x k) (ix y k) := ix_map7 (fun k => max (ix x k) (ix y k)) hk
theorem joinM_len (x y : List Int) : (joinM x y).length = 7 := len_map7 _
theorem hang_join (r s : Int) (c : Cm) (A : List Int) (a : Int × List Int) (e : En) (h7 : a.2.length = 7) : hang r s c (a.1, joinM A a.2) e = ((hang r s c a e).1, joinM A (hang r s c a e).2) := by
  unfold hang
  split
  · refine Prod.ext rfl ?_
    refine ext7 (by simp only [List.length_set]; exact joinM_len _ _) (joinM_len _ _) fun k hk => ?_
    simp only
    rw [ix_set7 _ _ (joinM_len _ _) hk, joinM_ix A (a.2.set e.r.toNat (max (ix a.2 e.r.toNat) e.s)) hk, ix_set7 _ _ h7 hk]
    by_cases hj : e.r.toNat = k
    · subst hj
      rw [if_pos rfl, if_pos rfl, joinM_ix _ _ hk]
      omega
    · rw [if_neg hj, if_neg hj, joinM_ix _ _ hk]
  · rfl
theorem hangF_join (r s : Int) (c : Cm) (A : List Int) : ∀ (k : List En) (a : Int × List Int), a.2.length = 7 → hangF k r s c (a.1, joinM A a.2) = ((hangF k r s c a).1, joinM A (hangF k r s c a).2)
  | [], _, _ => rfl
  | e :: k, a, h => by
    show hangF k r s c (hang r s c (a.1, joinM A a.2) e) = ((hangF k r s c (hang r s c a e)).1, joinM A (hangF k r s c (hang r s c a e)).2)
    rw [hang_join r s c A a e h]
    exact hangF_join r s c A k (hang r s c a e) ((hang_len r s c a e).trans h)
theorem attr_is {x : Ix} (h : Kn x) (r s : Int) (c : Cm) : hangF x.k r s c (0, leastL x.d r s) = attrX x r s c := by
  have hlow : ∀ k, k < 7 → 0 ≤ ix (leastL x.d r s) k := fun k hk => by
    rw [leastL_ix _ _ _ hk]
    unfold lowI
    have := h.low k hk
    split
    · split
      · rename_i hr
        have := rightI_is hr
        omega
      · exact Int.le_refl _
    · omega
  have e0 : joinM (leastL x.d r s) [0, 0, 0, 0, 0, 0, 0] = leastL x.d r s := ext7 (joinM_len _ _) (leastL_len _ _ _) fun k hk => by
    rw [joinM_ix _ _ hk]
    have h1 := hlow k hk
    have h2 : ix [0, 0, 0, 0, 0, 0, 0] k = 0 := by
      match k with
      | 0 | 1 | 2 | 3 | 4 | 5 | 6 => rfl
      | n + 7 => rfl
    omega
  have h1 := hangF_join r s c (leastL x.d r s) x.k (0, [0, 0, 0, 0, 0, 0, 0]) rfl
  simp only at h1
  rw [e0] at h1
  rw [h1]
  refine Prod.ext rfl ?_
  refine ext7 (joinM_len _ _) (attr_len _ _ _ _) fun k hk => ?_
  show ix (joinM (leastL x.d r s) (hangs x.k r s c).2) k = ix (attrX x r s c).2 k
  rw [joinM_ix _ _ hk, attr_ix _ _ _ _ hk, leastL_ix _ _ _ hk]
  have h2 := (hangs_low x.k r s c).2 k
  unfold lowI cutI ownI
  by_cases e : (k : Int) = r
  · rw [if_pos e, if_pos e, if_pos e]
    split
    · omega
    · omega
  · rw [if_neg e, if_neg e, if_neg e]
    omega
/-- The program's test. -/
theorem hits_is (r s : Int) (c : Cm) (e : En) : hits r s c e = (!(e.r == r && decide (s ≤ e.s)) && clashC e.c c) := by
  unfold hits En.at_
  cases clashC e.c c
  · simp
  · by_cases h1 : e.r = r
    · subst h1
      by_cases h2 : e.s = s
      · subst h2; simp
      · by_cases h3 : s < e.s
        · simp [h3, Int.le_of_lt h3]
        · have : ¬ s ≤ e.s := by omega
          simp [h2, h3, this]
    · have : (e.r == r) = false := by simpa using h1
      rw [this]
      simp
/-! ### The walk's state -/
structure Pt (w wr : World) (g b : Nat) (x : Ix) (r s : Int) (c : Cm) (ga : Nat) (a : Int × List Int) : Prop where
  low : Below w.heap.size w wr
  px : Px wr g b x
  bi : Row wr w.heap.size 26 #[.int .i64 r, .int .i64 s]
  bc : Row wr (w.heap.size + 1) 29 #[.int .i64 c.k, .int .i64 c.c, .int .i64 c.q, .string c.key, .string c.en, .string c.old, .string c.val]
  br : Row wr (w.heap.size + 2) 34 (cA zero8)
  ba : Row wr ga 34 (cA (a.1 :: a.2))
  na : w.heap.size + 3 ≤ ga
  len : a.2.length = 7
section
variable {w wr wx : World} {g b ga : Nat} {x : Ix} {r s : Int} {c : Cm} {a a' : Int × List Int}
theorem Pt.grown {gr : Nat} (h : Pt w wr g b x r s c ga a) (hg : wr.grownBy wx (some gr)) (h1 : ga < gr) (h2 : g < gr) (h3 : gr ≠ b) : Pt w wx g b x r s c ga a := by
  have hn := h.na
  exact ⟨h.low.grown hg h.low.size (fun k e => by injection e; omega), h.px.grown hg (by simp; omega) (by simp; omega), h.bi.grown hg (by simp; omega), h.bc.grown hg (by simp; omega), h.br.grown hg (by simp; omega), h.ba.grown hg (by simp; omega), h.na, h.len⟩
theorem Pt.below (h : Pt w wr g b x r s c ga a) (hb : Below wr.heap.size wr wx) : Pt w wx g b x r s c ga a :=
  ⟨kept_trans h.low hb, h.px.below hb, h.bi.below hb h.bi.lt, h.bc.below hb h.bc.lt, h.br.below hb h.br.lt, h.ba.below hb h.ba.lt, h.na, h.len⟩
theorem Pt.put (h : Pt w wr g b x r s c ga a) (i : Nat) (v : Value) (he : (cA (a.1 :: a.2)).setIfInBounds i v = cA (a'.1 :: a'.2)) (hl : a'.2.length = 7) : Pt w (wr.setCell ⟨ga, i, none⟩ v) g b x r s c ga a' := by
  have hn := h.na
  have hg := grown_put (grown_refl wr (some ga)) i v
  exact ⟨h.low.setCell (by show w.heap.size ≤ ga; omega) v, h.px.setCell (rows_ne h.px.row h.ba (by decide)) (mp_off h.px.mp h.ba) _ _, h.bi.grown hg (by simp; omega), h.bc.grown hg (by simp; omega), h.br.grown hg (by simp; omega), he ▸ h.ba.put i v, h.na, hl⟩
theorem Pt.put0 (h : Pt w wr g b x r s c ga a) (v : Int) : Pt w (wr.setCell ⟨ga, 0, none⟩ (.int .i64 v)) g b x r s c ga (v, a.2) := h.put 0 _ (cA_set0 _ _ _) h.len
theorem Pt.putk (h : Pt w wr g b x r s c ga a) (k : Nat) (v : Int) : Pt w (wr.setCell ⟨ga, 1 + k, none⟩ (.int .i64 v)) g b x r s c ga (a.1, a.2.set k v) := h.put (1 + k) _ (cA_set _ _ _ _) (by rw [List.length_set]; exact h.len)
theorem Pt.at0 (h : Pt w wr g b x r s c ga a) : wr.cell? ⟨ga, 0, none⟩ = some (.int .i64 a.1) := row_cA h.ba 0 (by simp)
theorem Pt.atk (h : Pt w wr g b x r s c ga a) {k : Nat} (hk : k < 7) : wr.cell? ⟨ga, 1 + k, none⟩ = some (.int .i64 (ix a.2 k)) := by
  have := row_cA h.ba (1 + k) (by rw [List.length_cons, h.len]; omega)
  rwa [ix_cons] at this
end
/-- Three boxes. -/
structure Three (w wr : World) (g b : Nat) (x : Ix) (r s : Int) (c : Cm) : Prop where
  low : Below w.heap.size w wr
  px : Px wr g b x
  bi : Row wr w.heap.size 26 #[.int .i64 r, .int .i64 s]
  bc : Row wr (w.heap.size + 1) 29 #[.int .i64 c.k, .int .i64 c.c, .int .i64 c.q, .string c.key, .string c.en, .string c.old, .string c.val]
  br : Row wr (w.heap.size + 2) 34 (cA zero8)
theorem Three.below {w wr wx : World} {g b : Nat} {x : Ix} {r s : Int} {c : Cm} (h : Three w wr g b x r s c) (hb : Below wr.heap.size wr wx) : Three w wx g b x r s c :=
  ⟨kept_trans h.low hb, h.px.below hb, h.bi.below hb h.bi.lt, h.bc.below hb h.bc.lt, h.br.below hb h.br.lt⟩
theorem Three.start {w : World} {g b : Nat} {x : Ix} (h : Px w g b x) (r s : Int) (c : Cm) : Three w (((w.alloc (.cells #[.int .i64 r, .int .i64 s] 26)).alloc (.cells #[.int .i64 c.k, .int .i64 c.c, .int .i64 c.q, .string c.key, .string c.en, .string c.old, .string c.val] 29)).alloc (.cells (cA zero8) 34)) g b x r s c := by
  have hb := kept_alloc (kept_alloc (kept_alloc (kept_refl w) (.cells #[.int .i64 r, .int .i64 s] 26)) (.cells #[.int .i64 c.k, .int .i64 c.c, .int .i64 c.q, .string c.key, .string c.en, .string c.old, .string c.val] 29)) (.cells (cA zero8) 34)
  refine ⟨hb, h.below hb, ((Row.new w _ _).alloc _).alloc _, ?_, ?_⟩
  · have h1 := (Row.new (w.alloc (.cells #[.int .i64 r, .int .i64 s] 26)) 29 #[.int .i64 c.k, .int .i64 c.c, .int .i64 c.q, .string c.key, .string c.en, .string c.old, .string c.val]).alloc (.cells (cA zero8) 34)
    have hs : (w.alloc (.cells #[.int .i64 r, .int .i64 s] 26)).heap.size = w.heap.size + 1 := by simp
    rwa [hs] at h1
  · have h1 := Row.new ((w.alloc (.cells #[.int .i64 r, .int .i64 s] 26)).alloc (.cells #[.int .i64 c.k, .int .i64 c.c, .int .i64 c.q, .string c.key, .string c.en, .string c.old, .string c.val] 29)) 34 (cA zero8)
    have hs : ((w.alloc (.cells #[.int .i64 r, .int .i64 s] 26)).alloc (.cells #[.int .i64 c.k, .int .i64 c.c, .int .i64 c.q, .string c.key, .string c.en, .string c.old, .string c.val] 29)).heap.size = w.heap.size + 2 := by simp
    rwa [hs] at h1
theorem Pt.start {w wa : World} {g b : Nat} {x : Ix} {r s : Int} {c : Cm} (h : Three w wa g b x r s c) {L : List Int} (hL : L.length = 7) : Pt w (wa.alloc (.cells (cA (0 :: L)) 34)) g b x r s c wa.heap.size (0, L) := by
  have hb := kept_alloc (kept_refl wa) (.cells (cA (0 :: L)) 34)
  have k := h.below hb
  exact ⟨k.low, k.px, k.bi, k.bc, k.br, Row.new _ _ _, h.br.lt, hL⟩
/-- In a round: what has come stands in v and behind it. -/
structure Pv (w wr : World) (g b : Nat) (x : Ix) (r s : Int) (c : Cm) (ga gr v M : Nat) (left : Lit → Bool) (e : En) (a : Int × List Int) : Prop where
  pt : Pt w wr g b x r s c ga a
  rg : Rg wr b gr (kE x.k) left
  vi : Row wr v 26 #[.int .i64 e.r, .int .i64 e.s]
  vn : Row wr (v + 1) 64 #[.int .i64 e.c.k, .int .i64 e.c.c, .int .i64 e.c.q, .string e.c.key, .string e.c.en, .string e.c.old, .string e.c.val, .int .i64 e.q]
  lt : wr.rangeLeft b gr < M
  n2 : ga < gr
  n3 : g < gr
  n4 : gr < v
section
variable {w wr wx : World} {g b ga gr v M : Nat} {x : Ix} {r s : Int} {c : Cm} {left : Lit → Bool} {e : En} {a a' : Int × List Int}
theorem Pv.start (h : Pt w wr g b x r s c ga a) (hr : Rg wr b gr (kE x.k) left) (hl : wr.rangeLeft b gr < M) (h2 : ga < gr) (h3 : g < gr) : Pv w ((wr.alloc (.cells #[.int .i64 e.r, .int .i64 e.s] 26)).alloc (.cells #[.int .i64 e.c.k, .int .i64 e.c.c, .int .i64 e.c.q, .string e.c.key, .string e.c.en, .string e.c.old, .string e.c.val, .int .i64 e.q] 64)) g b x r s c ga gr wr.heap.size M left e a := by
  have hb := kept_alloc (kept_alloc (kept_refl wr) (.cells #[.int .i64 e.r, .int .i64 e.s] 26)) (.cells #[.int .i64 e.c.k, .int .i64 e.c.c, .int .i64 e.c.q, .string e.c.key, .string e.c.en, .string e.c.old, .string e.c.val, .int .i64 e.q] 64)
  refine ⟨h.below hb, hr.below hb, (Row.new _ _ _).alloc _, ?_, by rw [hr.left_below hb]; exact hl, h2, h3, hr.lt.2.1⟩
  have h1 := Row.new (wr.alloc (.cells #[.int .i64 e.r, .int .i64 e.s] 26)) 64 #[.int .i64 e.c.k, .int .i64 e.c.c, .int .i64 e.c.q, .string e.c.key, .string e.c.en, .string e.c.old, .string e.c.val, .int .i64 e.q]
  have hs : (wr.alloc (.cells #[.int .i64 e.r, .int .i64 e.s] 26)).heap.size = wr.heap.size + 1 := by simp
  rwa [hs] at h1
theorem Pv.below (h : Pv w wr g b x r s c ga gr v M left e a) (hb : Below wr.heap.size wr wx) : Pv w wx g b x r s c ga gr v M left e a :=
  ⟨h.pt.below hb, h.rg.below hb, h.vi.below hb h.vi.lt, h.vn.below hb h.vn.lt, by rw [h.rg.left_below hb]; exact h.lt, h.n2, h.n3, h.n4⟩
theorem Pv.put (h : Pv w wr g b x r s c ga gr v M left e a) (i : Nat) (u : Value) (hp : Pt w (wr.setCell ⟨ga, i, none⟩ u) g b x r s c ga a') : Pv w (wr.setCell ⟨ga, i, none⟩ u) g b x r s c ga gr v M left e a' := by
  have h2 := h.n2
  have h4 := h.n4
  have hg := grown_put (grown_refl wr (some ga)) i u
  have hbn : some b ≠ some ga := by have := mp_off h.pt.px.mp h.pt.ba; simpa using this
  exact ⟨hp, h.rg.kept hg hbn (by simp; omega), h.vi.grown hg (by simp; omega), h.vn.grown hg (by simp; omega), by rw [h.rg.left_kept hg hbn (by simp; omega)]; exact h.lt, h.n2, h.n3, h.n4⟩
theorem Pv.put0 (h : Pv w wr g b x r s c ga gr v M left e a) (u : Int) : Pv w (wr.setCell ⟨ga, 0, none⟩ (.int .i64 u)) g b x r s c ga gr v M left e (u, a.2) := h.put 0 _ (h.pt.put0 u)
theorem Pv.putk (h : Pv w wr g b x r s c ga gr v M left e a) (k : Nat) (u : Int) : Pv w (wr.setCell ⟨ga, 1 + k, none⟩ (.int .i64 u)) g b x r s c ga gr v M left e (a.1, a.2.set k u) := h.put (1 + k) _ (h.pt.putk k u)
end
end Go.Proofs.Ytfihcgimgngmhaa
/- The program's Attr of package interf's chapter. Conditions: the Index lies in memory; what it holds is right. -/
namespace Go.Proofs.Ytfihcgimgngmhaa
set_option maxRecDepth 100000
open Go.RowKit Go.Maps
set_option maxHeartbeats 8000000 in
theorem pattr_any (g b : Nat) (x : Ix) (r s : Int) (c : Cm) (w : World) (h : Px w g b x) (hk : Kn x) (hz : c.key.size ≤ 140737488355328) (hz2 : ∀ e, e ∈ x.k → e.c.key.size ≤ 140737488355328) :
    Calls Try.prog 12 #[.pointer (some ⟨g, 0, none⟩), .agg #[.int .i64 r, .int .i64 s], .agg #[.int .i64 c.k, .int .i64 c.c, .int .i64 c.q, .string c.key, .string c.en, .string c.old, .string c.val]] w (fun e w' => e = .returned (.agg (cA ((attrX x r s c).1 :: (attrX x r s c).2))) ∧ Below w.heap.size w w') := by
  have H3 := hide (Three.start h r s c)
  have HK := hide hk
  have HZ := hide hz
  have HZ2 := hide hz2
  have HLE := hide (fun wz (hx : Px wz g b x) => least_any g b x r s wz hx)
  obtain ⟨L, hL⟩ : ∃ L, leastL x.d r s = L := ⟨_, rfl⟩
  have HLL := hide (show L.length = 7 from hL ▸ leastL_len x.d r s)
  rw [hL] at HLE
  have HLQ := hide hL
  obtain ⟨l0, l1, l2, l3, l4, l5, l6, rfl⟩ := len7 HLL.out
  clear h hk hz hz2 hL
  go_enter Try.func12, Try.ntmps12
  go_upto_region 1 with (fail)
  replace H3 : Hid (Three w (((w.alloc (.cells #[.int .i64 r, .int .i64 s] 26)).alloc (.cells #[.int .i64 c.k, .int .i64 c.c, .int .i64 c.q, .string c.key, .string c.en, .string c.old, .string c.val] 29)).alloc (.cells #[.int .i64 0, .int .i64 0, .int .i64 0, .int .i64 0, .int .i64 0, .int .i64 0, .int .i64 0, .int .i64 0] 34)) g b x r s c) := H3
  generalize ((w.alloc (.cells #[.int .i64 r, .int .i64 s] 26)).alloc (.cells #[.int .i64 c.k, .int .i64 c.c, .int .i64 c.q, .string c.key, .string c.en, .string c.old, .string c.val] 29)).alloc (.cells #[.int .i64 0, .int .i64 0, .int .i64 0, .int .i64 0, .int .i64 0, .int .i64 0, .int .i64 0, .int .i64 0] 34) = w1 at H3 ⊢
  have y0 : w1.cell? ⟨w.heap.size, 0, none⟩ = some (.int .i64 r) := H3.out.bi.cell 0
  have y1 : w1.cell? ⟨w.heap.size, 1, none⟩ = some (.int .i64 s) := H3.out.bi.cell 1
  go_upto_region 2 with (go_at_call 27; (with_reducible refine (HLE.out _ H3.out.px).mono ?_); rintro ea wa ⟨rfl, HBA⟩; replace H3 := hide (H3.out.below HBA); clear HBA y0 y1; simp only [dC, List.map_cons, List.map_nil])
  have HP := hide (Pt.start H3.out (L := [l0, l1, l2, l3, l4, l5, l6]) rfl)
  replace HP : Hid (Pt w (wa.alloc (.cells #[.int .i64 0, .int .i64 l0, .int .i64 l1, .int .i64 l2, .int .i64 l3, .int .i64 l4, .int .i64 l5, .int .i64 l6] 34)) g b x r s c wa.heap.size (0, [l0, l1, l2, l3, l4, l5, l6])) := HP
  generalize wa.alloc (.cells #[.int .i64 0, .int .i64 l0, .int .i64 l1, .int .i64 l2, .int .i64 l3, .int .i64 l4, .int .i64 l5, .int .i64 l6] 34) = w2 at HP ⊢
  generalize wa.heap.size = ga at HP ⊢
  clear H3 HLE
  have x0 : w2.cell? ⟨g, 0, none⟩ = some (.map (some b)) := HP.out.px.known
  go_wp2_with (first
    | (at_range; refine wpList_range_mp HP.out.px.mp rfl _ rfl Try.underlying60 rfl ?_; intro w3 left0 hrg0 hd0 hb0)
    | go_in)
  have HN := hide (show ga < w2.heap.size ∧ g < w2.heap.size from ⟨HP.out.ba.lt, HP.out.px.row.lt⟩)
  have HP3 := hide (HP.out.below hb0)
  have HD0 := hide (doneE_nil hd0)
  have HR0 := hide hrg0
  clear hd0 hrg0 hb0 HP x0
  generalize w2.heap.size = gr at HN HR0 ⊢
  go_frame
  obtain ⟨A0, hA0⟩ : ∃ a : Int × List Int, ((0 : Int), [l0, l1, l2, l3, l4, l5, l6]) = a := ⟨_, rfl⟩
  have HA0 := hide (show hangF x.k r s c A0 = attrX x r s c by rw [← hA0, ← HLQ.out]; exact attr_is HK.out r s c)
  rw [hA0] at HP3
  clear hA0 HLL HLQ
  generalize (Value.agg #[.int .i64 l0, .int .i64 l1, .int .i64 l2, .int .i64 l3, .int .i64 l4, .int .i64 l5, .int .i64 l6]) = vl
  generalize (Value.agg #[.int .i64 0, .int .i64 l0, .int .i64 l1, .int .i64 l2, .int .i64 l3, .int .i64 l4, .int .i64 l5, .int .i64 l6]) = vl2
  go_loopw [] (fun wr => ∃ left, Rg wr b gr (kE x.k) left ∧ Hid (Pt w wr g b x r s c ga (hangF (doneE x.k left) r s c A0))) (fun wr => wr.rangeLeft b gr)
  case atStart => exact ⟨_, HR0.out, hide (by rw [HD0.out]; exact HP3.out)⟩
  case round =>
    clear HP3 HR0 HD0
    obtain ⟨left, hrg, HR⟩ := hrel
    go_wp2_with (first
      | (at_next; refine wpList_next_rg hrg rfl _ rfl rfl ?_ ?_)
      | go_in)
    · intro hall
      have HE := hide (show hangF (doneE x.k left) r s c A0 = attrX x r s c by rw [doneE_all hall]; exact HA0.out)
      clear hall hrg
      rw [HE.out] at HR
      have HA7 := hide (attr_len x r s c)
      obtain ⟨T, hT⟩ : ∃ T, attrX x r s c = T := ⟨_, rfl⟩
      rw [hT] at HR HA7
      have HEQ := hide hT
      clear hT
      obtain ⟨M, hM⟩ : ∃ M, T.1 :: T.2 = M := ⟨_, rfl⟩
      have hM8 : M.length = 8 := by rw [← hM, List.length_cons, HA7.out]
      have HROW := hide (show Row wr ga 34 (cA M) from hM ▸ HR.out.ba)
      have HRES := hide (HR.out.br)
      have HLOW := hide (HR.out.low)
      have HMQ := hide hM
      clear HR hM
      obtain ⟨z0, z1, z2, z3, z4, z5, z6, z7, rfl⟩ := len8 hM8
      obtain ⟨e0, e1, e2, e3, e4, e5, e6, e7⟩ := HROW.out.eight
      obtain ⟨k0, k1, k2, k3, k4, k5, k6, k7⟩ := HRES.out.eight
      replace e0 : wr.cell? ⟨ga, 0, none⟩ = some (.int .i64 z0) := e0
      replace k0 : wr.cell? ⟨w.heap.size + 1 + 1, 0, none⟩ = some (.int .i64 0) := k0
      replace e1 : wr.cell? ⟨ga, 1, none⟩ = some (.int .i64 z1) := e1
      replace k1 : wr.cell? ⟨w.heap.size + 1 + 1, 1, none⟩ = some (.int .i64 0) := k1
      replace e2 : wr.cell? ⟨ga, 2, none⟩ = some (.int .i64 z2) := e2
      replace k2 : wr.cell? ⟨w.heap.size + 1 + 1, 2, none⟩ = some (.int .i64 0) := k2
      replace e3 : wr.cell? ⟨ga, 3, none⟩ = some (.int .i64 z3) := e3
      replace k3 : wr.cell? ⟨w.heap.size + 1 + 1, 3, none⟩ = some (.int .i64 0) := k3
      replace e4 : wr.cell? ⟨ga, 4, none⟩ = some (.int .i64 z4) := e4
      replace k4 : wr.cell? ⟨w.heap.size + 1 + 1, 4, none⟩ = some (.int .i64 0) := k4
      replace e5 : wr.cell? ⟨ga, 5, none⟩ = some (.int .i64 z5) := e5
      replace k5 : wr.cell? ⟨w.heap.size + 1 + 1, 5, none⟩ = some (.int .i64 0) := k5
      replace e6 : wr.cell? ⟨ga, 6, none⟩ = some (.int .i64 z6) := e6
      replace k6 : wr.cell? ⟨w.heap.size + 1 + 1, 6, none⟩ = some (.int .i64 0) := k6
      replace e7 : wr.cell? ⟨ga, 7, none⟩ = some (.int .i64 z7) := e7
      replace k7 : wr.cell? ⟨w.heap.size + 1 + 1, 7, none⟩ = some (.int .i64 0) := k7
      obtain ⟨g0, g1, g2, g3, g4, g5, g6, g7⟩ := HRES.out.free8
      clear hM8
      go_wp2
      exact bodyPost_ret (results_at8 Try.results12 rfl (row_eight HRES.out _ _ _ _ _ _ _ _)) rfl ⟨by rw [HEQ.out, HMQ.out]; rfl, below_eight HLOW.out (by omega) _ _ _ _ _ _ _ _⟩
    · intro er0 es0 ev w4 hm hrg4 hpm hlt hg4 hen
      obtain ⟨e, hem, heq⟩ := mem_kE.1 hm
      obtain rfl : e.r = er0 := congrArg (fun z => z.1.1) heq
      obtain rfl : e.s = es0 := congrArg (fun z => z.1.2) heq
      obtain rfl : enV e = ev := congrArg (fun z => z.2) heq
      clear heq
      obtain ⟨hr1, hr2, hr3, hr4, hr5⟩ := may_iff.1 (HK.out.ok e hem)
      obtain ⟨q0, q7, q1, qm⟩ := rightI_is hr1
      have HPM := hide (doneE_step hpm)
      have HSZ := hide (HZ2.out e hem)
      obtain ⟨acc, hacc⟩ : ∃ z, hangF (doneE x.k left) r s c A0 = z := ⟨_, rfl⟩
      rw [hacc] at HR
      have HACC := hide hacc
      have HV := hide (Pv.start (e := e) (HR.out.grown hg4 HN.out.1 HN.out.2 hrg.lt.2.2) hrg4 hlt HN.out.1 HN.out.2)
      clear hm hpm hacc HR hg4 hrg4 hr1 hr2 hr3 hem hrg
      obtain ⟨er, es, ec, eq⟩ := e
      simp only at q0 q7 q1 qm hr4 hr5
      replace hen : (Instr.entry (.pointer (some ⟨gr, 0, none⟩))).run Try.prog w4 = .ok (.tuple #[.agg #[.int .i64 er, .int .i64 es], .agg #[.int .i64 ec.k, .int .i64 ec.c, .int .i64 ec.q, .string ec.key, .string ec.en, .string ec.old, .string ec.val, .int .i64 eq]]) w4 := hen
      go_frame
      go_upto_region 5 with (fail)
      replace HV : Hid (Pv w ((w4.alloc (.cells #[.int .i64 er, .int .i64 es] 26)).alloc (.cells #[.int .i64 ec.k, .int .i64 ec.c, .int .i64 ec.q, .string ec.key, .string ec.en, .string ec.old, .string ec.val, .int .i64 eq] 64)) g b x r s c ga gr w4.heap.size (wr.rangeLeft b gr) (strikeL left (er, es)) ⟨er, es, ec, eq⟩ acc) := HV
      generalize (w4.alloc (.cells #[.int .i64 er, .int .i64 es] 26)).alloc (.cells #[.int .i64 ec.k, .int .i64 ec.c, .int .i64 ec.q, .string ec.key, .string ec.en, .string ec.old, .string ec.val, .int .i64 eq] 64) = w5 at HV ⊢
      generalize w4.heap.size = v at HV ⊢
      generalize (Value.tuple #[.bool true, .agg #[.int .i64 er, .int .i64 es], enV ⟨er, es, ec, eq⟩]) = vt1
      clear hen hlt
      obtain ⟨th, hth⟩ : ∃ t, (er == r && decide (s ≤ es)) = t := ⟨_, rfl⟩
      have HHI := hide (fun w => hides_any r s er es w)
      rw [hth] at HHI
      have HTH := hide hth
      obtain ⟨tc, htc⟩ : ∃ t, clashC ec c = t := ⟨_, rfl⟩
      have HTC := hide htc
      have HCL := hide (show ∀ w, Calls Try.prog 23 #[.agg #[.int .i64 ec.k, .int .i64 ec.c, .int .i64 ec.q, .string ec.key, .string ec.en, .string ec.old, .string ec.val], .agg #[.int .i64 c.k, .int .i64 c.c, .int .i64 c.q, .string c.key, .string c.en, .string c.old, .string c.val]] w fun e w' => e = .returned (.bool tc) ∧ Below w.heap.size w w' from fun w => htc ▸ clash_any ec.k ec.c ec.q ec.key ec.en ec.old ec.val c.k c.c c.q c.key c.en c.old c.val w HSZ.out HZ.out)
      clear hth htc
      have y0 : w5.cell? ⟨w.heap.size, 0, none⟩ = some (.int .i64 r) := HV.out.pt.bi.cell 0
      have y1 : w5.cell? ⟨w.heap.size, 1, none⟩ = some (.int .i64 s) := HV.out.pt.bi.cell 1
      have v0 : w5.cell? ⟨v, 0, none⟩ = some (.int .i64 er) := HV.out.vi.cell 0
      have v1 : w5.cell? ⟨v, 1, none⟩ = some (.int .i64 es) := HV.out.vi.cell 1
      have c0 : w5.cell? ⟨w.heap.size + 1, 0, none⟩ = some (.int .i64 c.k) := HV.out.pt.bc.cell 0
      have c1 : w5.cell? ⟨w.heap.size + 1, 1, none⟩ = some (.int .i64 c.c) := HV.out.pt.bc.cell 1
      have c2 : w5.cell? ⟨w.heap.size + 1, 2, none⟩ = some (.int .i64 c.q) := HV.out.pt.bc.cell 2
      have c3 : w5.cell? ⟨w.heap.size + 1, 3, none⟩ = some (.string c.key) := HV.out.pt.bc.cell 3
      have c4 : w5.cell? ⟨w.heap.size + 1, 4, none⟩ = some (.string c.en) := HV.out.pt.bc.cell 4
      have c5 : w5.cell? ⟨w.heap.size + 1, 5, none⟩ = some (.string c.old) := HV.out.pt.bc.cell 5
      have c6 : w5.cell? ⟨w.heap.size + 1, 6, none⟩ = some (.string c.val) := HV.out.pt.bc.cell 6
      have n0 : w5.cell? ⟨v + 1, 0, none⟩ = some (.int .i64 ec.k) := HV.out.vn.cell 0
      have n1 : w5.cell? ⟨v + 1, 1, none⟩ = some (.int .i64 ec.c) := HV.out.vn.cell 1
      have n2 : w5.cell? ⟨v + 1, 2, none⟩ = some (.int .i64 ec.q) := HV.out.vn.cell 2
      have n3 : w5.cell? ⟨v + 1, 3, none⟩ = some (.string ec.key) := HV.out.vn.cell 3
      have n4 : w5.cell? ⟨v + 1, 4, none⟩ = some (.string ec.en) := HV.out.vn.cell 4
      have n5 : w5.cell? ⟨v + 1, 5, none⟩ = some (.string ec.old) := HV.out.vn.cell 5
      have n6 : w5.cell? ⟨v + 1, 6, none⟩ = some (.string ec.val) := HV.out.vn.cell 6
      have n7 : w5.cell? ⟨v + 1, 7, none⟩ = some (.int .i64 eq) := HV.out.vn.cell 7
      cases th
      case true =>
        go_wp2_with (first
          | (go_at_call 28; (with_reducible refine (HHI.out _).mono ?_); rintro ea wa ⟨rfl, HBA⟩; replace HV := hide (HV.out.below HBA); clear HBA; clear y0 y1 v0 v1 c0 c1 c2 c3 c4 c5 c6 n0 n1 n2 n3 n4 n5 n6 n7; have y0 : wa.cell? ⟨w.heap.size, 0, none⟩ = some (.int .i64 r) := HV.out.pt.bi.cell 0; have y1 : wa.cell? ⟨w.heap.size, 1, none⟩ = some (.int .i64 s) := HV.out.pt.bi.cell 1; have v0 : wa.cell? ⟨v, 0, none⟩ = some (.int .i64 er) := HV.out.vi.cell 0; have v1 : wa.cell? ⟨v, 1, none⟩ = some (.int .i64 es) := HV.out.vi.cell 1; have c0 : wa.cell? ⟨w.heap.size + 1, 0, none⟩ = some (.int .i64 c.k) := HV.out.pt.bc.cell 0; have c1 : wa.cell? ⟨w.heap.size + 1, 1, none⟩ = some (.int .i64 c.c) := HV.out.pt.bc.cell 1; have c2 : wa.cell? ⟨w.heap.size + 1, 2, none⟩ = some (.int .i64 c.q) := HV.out.pt.bc.cell 2; have c3 : wa.cell? ⟨w.heap.size + 1, 3, none⟩ = some (.string c.key) := HV.out.pt.bc.cell 3; have c4 : wa.cell? ⟨w.heap.size + 1, 4, none⟩ = some (.string c.en) := HV.out.pt.bc.cell 4; have c5 : wa.cell? ⟨w.heap.size + 1, 5, none⟩ = some (.string c.old) := HV.out.pt.bc.cell 5; have c6 : wa.cell? ⟨w.heap.size + 1, 6, none⟩ = some (.string c.val) := HV.out.pt.bc.cell 6; have n0 : wa.cell? ⟨v + 1, 0, none⟩ = some (.int .i64 ec.k) := HV.out.vn.cell 0; have n1 : wa.cell? ⟨v + 1, 1, none⟩ = some (.int .i64 ec.c) := HV.out.vn.cell 1; have n2 : wa.cell? ⟨v + 1, 2, none⟩ = some (.int .i64 ec.q) := HV.out.vn.cell 2; have n3 : wa.cell? ⟨v + 1, 3, none⟩ = some (.string ec.key) := HV.out.vn.cell 3; have n4 : wa.cell? ⟨v + 1, 4, none⟩ = some (.string ec.en) := HV.out.vn.cell 4; have n5 : wa.cell? ⟨v + 1, 5, none⟩ = some (.string ec.old) := HV.out.vn.cell 5; have n6 : wa.cell? ⟨v + 1, 6, none⟩ = some (.string ec.val) := HV.out.vn.cell 6; have n7 : wa.cell? ⟨v + 1, 7, none⟩ = some (.int .i64 eq) := HV.out.vn.cell 7)
          | go_in)
        exact ⟨⟨_, HV.out.rg, hide (by rw [hangF_perm HPM.out, hangF_snoc, HACC.out, hang_not (by rw [hits_is, HTH.out]; rfl)]; exact HV.out.pt)⟩, HV.out.lt⟩
      case false =>
        cases tc
        case false =>
          go_wp2_with (first
            | (go_at_call 28; (with_reducible refine (HHI.out _).mono ?_); rintro ea wa ⟨rfl, HBA⟩; replace HV := hide (HV.out.below HBA); clear HBA; clear y0 y1 v0 v1 c0 c1 c2 c3 c4 c5 c6 n0 n1 n2 n3 n4 n5 n6 n7; have y0 : wa.cell? ⟨w.heap.size, 0, none⟩ = some (.int .i64 r) := HV.out.pt.bi.cell 0; have y1 : wa.cell? ⟨w.heap.size, 1, none⟩ = some (.int .i64 s) := HV.out.pt.bi.cell 1; have v0 : wa.cell? ⟨v, 0, none⟩ = some (.int .i64 er) := HV.out.vi.cell 0; have v1 : wa.cell? ⟨v, 1, none⟩ = some (.int .i64 es) := HV.out.vi.cell 1; have c0 : wa.cell? ⟨w.heap.size + 1, 0, none⟩ = some (.int .i64 c.k) := HV.out.pt.bc.cell 0; have c1 : wa.cell? ⟨w.heap.size + 1, 1, none⟩ = some (.int .i64 c.c) := HV.out.pt.bc.cell 1; have c2 : wa.cell? ⟨w.heap.size + 1, 2, none⟩ = some (.int .i64 c.q) := HV.out.pt.bc.cell 2; have c3 : wa.cell? ⟨w.heap.size + 1, 3, none⟩ = some (.string c.key) := HV.out.pt.bc.cell 3; have c4 : wa.cell? ⟨w.heap.size + 1, 4, none⟩ = some (.string c.en) := HV.out.pt.bc.cell 4; have c5 : wa.cell? ⟨w.heap.size + 1, 5, none⟩ = some (.string c.old) := HV.out.pt.bc.cell 5; have c6 : wa.cell? ⟨w.heap.size + 1, 6, none⟩ = some (.string c.val) := HV.out.pt.bc.cell 6; have n0 : wa.cell? ⟨v + 1, 0, none⟩ = some (.int .i64 ec.k) := HV.out.vn.cell 0; have n1 : wa.cell? ⟨v + 1, 1, none⟩ = some (.int .i64 ec.c) := HV.out.vn.cell 1; have n2 : wa.cell? ⟨v + 1, 2, none⟩ = some (.int .i64 ec.q) := HV.out.vn.cell 2; have n3 : wa.cell? ⟨v + 1, 3, none⟩ = some (.string ec.key) := HV.out.vn.cell 3; have n4 : wa.cell? ⟨v + 1, 4, none⟩ = some (.string ec.en) := HV.out.vn.cell 4; have n5 : wa.cell? ⟨v + 1, 5, none⟩ = some (.string ec.old) := HV.out.vn.cell 5; have n6 : wa.cell? ⟨v + 1, 6, none⟩ = some (.string ec.val) := HV.out.vn.cell 6; have n7 : wa.cell? ⟨v + 1, 7, none⟩ = some (.int .i64 eq) := HV.out.vn.cell 7)
            | (go_at_call 23; (with_reducible refine (HCL.out _).mono ?_); rintro ea wb ⟨rfl, HBA⟩; replace HV := hide (HV.out.below HBA); clear HBA; clear y0 y1 v0 v1 c0 c1 c2 c3 c4 c5 c6 n0 n1 n2 n3 n4 n5 n6 n7; have y0 : wb.cell? ⟨w.heap.size, 0, none⟩ = some (.int .i64 r) := HV.out.pt.bi.cell 0; have y1 : wb.cell? ⟨w.heap.size, 1, none⟩ = some (.int .i64 s) := HV.out.pt.bi.cell 1; have v0 : wb.cell? ⟨v, 0, none⟩ = some (.int .i64 er) := HV.out.vi.cell 0; have v1 : wb.cell? ⟨v, 1, none⟩ = some (.int .i64 es) := HV.out.vi.cell 1; have c0 : wb.cell? ⟨w.heap.size + 1, 0, none⟩ = some (.int .i64 c.k) := HV.out.pt.bc.cell 0; have c1 : wb.cell? ⟨w.heap.size + 1, 1, none⟩ = some (.int .i64 c.c) := HV.out.pt.bc.cell 1; have c2 : wb.cell? ⟨w.heap.size + 1, 2, none⟩ = some (.int .i64 c.q) := HV.out.pt.bc.cell 2; have c3 : wb.cell? ⟨w.heap.size + 1, 3, none⟩ = some (.string c.key) := HV.out.pt.bc.cell 3; have c4 : wb.cell? ⟨w.heap.size + 1, 4, none⟩ = some (.string c.en) := HV.out.pt.bc.cell 4; have c5 : wb.cell? ⟨w.heap.size + 1, 5, none⟩ = some (.string c.old) := HV.out.pt.bc.cell 5; have c6 : wb.cell? ⟨w.heap.size + 1, 6, none⟩ = some (.string c.val) := HV.out.pt.bc.cell 6; have n0 : wb.cell? ⟨v + 1, 0, none⟩ = some (.int .i64 ec.k) := HV.out.vn.cell 0; have n1 : wb.cell? ⟨v + 1, 1, none⟩ = some (.int .i64 ec.c) := HV.out.vn.cell 1; have n2 : wb.cell? ⟨v + 1, 2, none⟩ = some (.int .i64 ec.q) := HV.out.vn.cell 2; have n3 : wb.cell? ⟨v + 1, 3, none⟩ = some (.string ec.key) := HV.out.vn.cell 3; have n4 : wb.cell? ⟨v + 1, 4, none⟩ = some (.string ec.en) := HV.out.vn.cell 4; have n5 : wb.cell? ⟨v + 1, 5, none⟩ = some (.string ec.old) := HV.out.vn.cell 5; have n6 : wb.cell? ⟨v + 1, 6, none⟩ = some (.string ec.val) := HV.out.vn.cell 6; have n7 : wb.cell? ⟨v + 1, 7, none⟩ = some (.int .i64 eq) := HV.out.vn.cell 7)
            | go_in)
          exact ⟨⟨_, HV.out.rg, hide (by rw [hangF_perm HPM.out, hangF_snoc, HACC.out, hang_not (by rw [hits_is, HTH.out]; exact HTC.out)]; exact HV.out.pt)⟩, HV.out.lt⟩
        case true =>
          go_upto_region 6 with (first
            | (go_at_call 28; (with_reducible refine (HHI.out _).mono ?_); rintro ea wa ⟨rfl, HBA⟩; replace HV := hide (HV.out.below HBA); clear HBA; clear y0 y1 v0 v1 c0 c1 c2 c3 c4 c5 c6 n0 n1 n2 n3 n4 n5 n6 n7; have y0 : wa.cell? ⟨w.heap.size, 0, none⟩ = some (.int .i64 r) := HV.out.pt.bi.cell 0; have y1 : wa.cell? ⟨w.heap.size, 1, none⟩ = some (.int .i64 s) := HV.out.pt.bi.cell 1; have v0 : wa.cell? ⟨v, 0, none⟩ = some (.int .i64 er) := HV.out.vi.cell 0; have v1 : wa.cell? ⟨v, 1, none⟩ = some (.int .i64 es) := HV.out.vi.cell 1; have c0 : wa.cell? ⟨w.heap.size + 1, 0, none⟩ = some (.int .i64 c.k) := HV.out.pt.bc.cell 0; have c1 : wa.cell? ⟨w.heap.size + 1, 1, none⟩ = some (.int .i64 c.c) := HV.out.pt.bc.cell 1; have c2 : wa.cell? ⟨w.heap.size + 1, 2, none⟩ = some (.int .i64 c.q) := HV.out.pt.bc.cell 2; have c3 : wa.cell? ⟨w.heap.size + 1, 3, none⟩ = some (.string c.key) := HV.out.pt.bc.cell 3; have c4 : wa.cell? ⟨w.heap.size + 1, 4, none⟩ = some (.string c.en) := HV.out.pt.bc.cell 4; have c5 : wa.cell? ⟨w.heap.size + 1, 5, none⟩ = some (.string c.old) := HV.out.pt.bc.cell 5; have c6 : wa.cell? ⟨w.heap.size + 1, 6, none⟩ = some (.string c.val) := HV.out.pt.bc.cell 6; have n0 : wa.cell? ⟨v + 1, 0, none⟩ = some (.int .i64 ec.k) := HV.out.vn.cell 0; have n1 : wa.cell? ⟨v + 1, 1, none⟩ = some (.int .i64 ec.c) := HV.out.vn.cell 1; have n2 : wa.cell? ⟨v + 1, 2, none⟩ = some (.int .i64 ec.q) := HV.out.vn.cell 2; have n3 : wa.cell? ⟨v + 1, 3, none⟩ = some (.string ec.key) := HV.out.vn.cell 3; have n4 : wa.cell? ⟨v + 1, 4, none⟩ = some (.string ec.en) := HV.out.vn.cell 4; have n5 : wa.cell? ⟨v + 1, 5, none⟩ = some (.string ec.old) := HV.out.vn.cell 5; have n6 : wa.cell? ⟨v + 1, 6, none⟩ = some (.string ec.val) := HV.out.vn.cell 6; have n7 : wa.cell? ⟨v + 1, 7, none⟩ = some (.int .i64 eq) := HV.out.vn.cell 7)
            | (go_at_call 23; (with_reducible refine (HCL.out _).mono ?_); rintro ea wb ⟨rfl, HBA⟩; replace HV := hide (HV.out.below HBA); clear HBA; clear y0 y1 v0 v1 c0 c1 c2 c3 c4 c5 c6 n0 n1 n2 n3 n4 n5 n6 n7; have y0 : wb.cell? ⟨w.heap.size, 0, none⟩ = some (.int .i64 r) := HV.out.pt.bi.cell 0; have y1 : wb.cell? ⟨w.heap.size, 1, none⟩ = some (.int .i64 s) := HV.out.pt.bi.cell 1; have v0 : wb.cell? ⟨v, 0, none⟩ = some (.int .i64 er) := HV.out.vi.cell 0; have v1 : wb.cell? ⟨v, 1, none⟩ = some (.int .i64 es) := HV.out.vi.cell 1; have c0 : wb.cell? ⟨w.heap.size + 1, 0, none⟩ = some (.int .i64 c.k) := HV.out.pt.bc.cell 0; have c1 : wb.cell? ⟨w.heap.size + 1, 1, none⟩ = some (.int .i64 c.c) := HV.out.pt.bc.cell 1; have c2 : wb.cell? ⟨w.heap.size + 1, 2, none⟩ = some (.int .i64 c.q) := HV.out.pt.bc.cell 2; have c3 : wb.cell? ⟨w.heap.size + 1, 3, none⟩ = some (.string c.key) := HV.out.pt.bc.cell 3; have c4 : wb.cell? ⟨w.heap.size + 1, 4, none⟩ = some (.string c.en) := HV.out.pt.bc.cell 4; have c5 : wb.cell? ⟨w.heap.size + 1, 5, none⟩ = some (.string c.old) := HV.out.pt.bc.cell 5; have c6 : wb.cell? ⟨w.heap.size + 1, 6, none⟩ = some (.string c.val) := HV.out.pt.bc.cell 6; have n0 : wb.cell? ⟨v + 1, 0, none⟩ = some (.int .i64 ec.k) := HV.out.vn.cell 0; have n1 : wb.cell? ⟨v + 1, 1, none⟩ = some (.int .i64 ec.c) := HV.out.vn.cell 1; have n2 : wb.cell? ⟨v + 1, 2, none⟩ = some (.int .i64 ec.q) := HV.out.vn.cell 2; have n3 : wb.cell? ⟨v + 1, 3, none⟩ = some (.string ec.key) := HV.out.vn.cell 3; have n4 : wb.cell? ⟨v + 1, 4, none⟩ = some (.string ec.en) := HV.out.vn.cell 4; have n5 : wb.cell? ⟨v + 1, 5, none⟩ = some (.string ec.old) := HV.out.vn.cell 5; have n6 : wb.cell? ⟨v + 1, 6, none⟩ = some (.string ec.val) := HV.out.vn.cell 6; have n7 : wb.cell? ⟨v + 1, 7, none⟩ = some (.int .i64 eq) := HV.out.vn.cell 7))
          clear y0 y1 v0 v1 c0 c1 c2 c3 c4 c5 c6 n0 n1 n2 n3 n4 n5 n6
          obtain ⟨m, D⟩ := acc
          have f0 : wb.cell? ⟨ga, 0, none⟩ = some (.int .i64 m) := HV.out.pt.at0
          have g0 : wb.frozen? ⟨ga, 0, none⟩ = false := HV.out.pt.ba.free 0
          replace HV := hide (HV.out.put0 (max m (eq + 1)))
          simp only at HV
          go_upto_region 7 with (fail)
          clear f0 g0 n7
          generalize wb.setCell ⟨ga, 0, none⟩ (.int .i64 (max m (eq + 1))) = wc at HV ⊢
          obtain ⟨k, rfl⟩ : ∃ k : Nat, er = k := ⟨er.toNat, by omega⟩
          have hk7 : k < 7 := by omega
          have hk7i : (k : Int) < 7 := by omega
          have hk0i : (0 : Int) ≤ (k : Int) := by omega
          have v0 : wc.cell? ⟨v, 0, none⟩ = some (.int .i64 (k : Int)) := HV.out.vi.cell 0
          have v1 : wc.cell? ⟨v, 1, none⟩ = some (.int .i64 es) := HV.out.vi.cell 1
          have f1 : wc.cell? ⟨ga, 1 + k, none⟩ = some (.int .i64 (ix D k)) := HV.out.pt.atk hk7
          have g1 : wc.frozen? ⟨ga, 1 + k, none⟩ = false := HV.out.pt.ba.free (1 + k)
          have HF := hide ((HV.out.putk k (max (ix D k) es)).below (kept_drewN (kept_refl _) 1))
          simp only at HF
          replace HF : Hid (Pv w (wc.setCell ⟨ga, 1 + k, none⟩ (.int .i64 (max (ix D k) es))).drew g b x r s c ga gr v (wr.rangeLeft b gr) (strikeL left ((k : Int), es)) ⟨k, es, ec, eq⟩ (max m (eq + 1), D.set k (max (ix D k) es))) := HF
          clear HV
          go_region
          clear f1 g1 v0 v1
          generalize World.drew (World.setCell wc _ _) = wv at HF ⊢
          go_wp2
          exact ⟨⟨_, HF.out.rg, hide (by rw [hangF_perm HPM.out, hangF_snoc, HACC.out, hang_yes (by rw [hits_is, HTH.out]; exact HTC.out)]; exact HF.out.pt)⟩, HF.out.lt⟩
end Go.Proofs.Ytfihcgimgngmhaa
