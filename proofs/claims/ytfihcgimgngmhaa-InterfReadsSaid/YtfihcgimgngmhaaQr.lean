/- What reads that were noted come to; the walk's state with calls that came in. No condition: no walk. -/
import Derived.Test.YtfihcgimgngmhaaVb
import Derived.Test.YtfihcgimgngmhaaRun
namespace Go.Proofs.Ytfihcgimgngmhaa
set_option maxRecDepth 100000
open Go.RowKit Go.Maps
def rdC (n : Int) (key : ByteArray) : Cm := ⟨1, 2, n, key, ⟨#[]⟩, ⟨#[]⟩, ⟨#[]⟩⟩
/-- Of row 0 some reads of client 2, up to slot n. -/
structure RdX (x : Ix) (n : Nat) : Prop where
  kn : Kn x
  d : x.d = [0, 0, 0, 0, 0, 0, 0]
  all : ∀ e, e ∈ x.k → e.r = 0 ∧ 1 ≤ e.s ∧ e.s ≤ n ∧ e.q = 0 ∧ e.c.k = 1 ∧ e.c.c = 2 ∧ e.c.key.size ≤ 16
  last : 0 < n → ∃ e, e ∈ x.k ∧ e.s = n
  len : x.k.length ≤ n
theorem RdX.zero : RdX zeroX 0 := ⟨Kn.zero, rfl, (fun e he => by cases he), fun h => absurd h (by omega), Nat.le_refl _⟩
theorem rd_may {x : Ix} {n : Nat} (h : RdX x n) (hn : n < 20) {key : ByteArray} (h0 : nilB key = false) (h16 : key.size ≤ 16) : mayN x.d 0 ((n + 1 : Nat) : Int) (rdC ((n + 1 : Nat) : Int) key) 0 = true := by
  rw [may_iff, h.d]
  refine ⟨rightI_mk (by omega) (by omega) (by omega) (by omega), ?_, ?_, by omega, by omega⟩
  · show (0 : Int) < _
    omega
  · unfold rightC rdC
    simp only
    rw [if_neg (by omega), Bool.and_eq_true]
    constructor
    · rw [sameC_iff]; rfl
    · unfold boundC
      have hz : (⟨#[]⟩ : ByteArray).size = 0 := rfl
      simp only [h0, hz]
      simp
      omega
theorem RdX.note {x : Ix} {n : Nat} (h : RdX x n) (hn : n < 20) {key : ByteArray} (h0 : nilB key = false) (h16 : key.size ≤ 16) : RdX (noteX x 0 ((n + 1 : Nat) : Int) (rdC ((n + 1 : Nat) : Int) key) 0) (n + 1) := by
  have hm := rd_may h hn h0 h16
  refine ⟨h.kn.note _ _ _ _, by rw [note_may hm]; exact h.d, fun e he => ?_, fun _ => ?_, ?_⟩
  · rw [note_may hm] at he
    rcases mem_putK.1 he with rfl | ⟨h1, _⟩
    · exact ⟨rfl, by simp only; omega, by simp only; omega, rfl, rfl, rfl, h16⟩
    · obtain ⟨a, b, c, d, f, g, i⟩ := h.all e h1
      exact ⟨a, b, by omega, d, f, g, i⟩
  · rw [note_may hm]
    exact ⟨_, mem_putK.2 (.inl rfl), rfl⟩
  · rw [note_may hm]
    show (putK x.k _ _ _ _).length ≤ n + 1
    rw [putK_len]
    have := h.len
    split <;> omega
theorem RdX.small {x : Ix} {n : Nat} (h : RdX x n) : ∀ e, e ∈ x.k → e.c.key.size ≤ 140737488355328 := fun e he => by
  have := (h.all e he).2.2.2.2.2.2
  omega
theorem fold_none (r s : Int) (c : Cm) : ∀ (k : List En) (a : Int × List Int), (∀ e, e ∈ k → hits r s c e = false) → k.foldl (hang r s c) a = a
  | [], _, _ => rfl
  | e :: k, a, h => by
    rw [List.foldl_cons, hang_not (h e (List.mem_cons_self ..))]
    exact fold_none r s c k a (fun f hf => h f (List.mem_cons_of_mem _ hf))
/-- A reader of all, of another client. -/
def allC : Cm := ⟨5, 1, 1, ⟨#[]⟩, ⟨#[]⟩, ⟨#[]⟩, ⟨#[]⟩⟩
theorem rd_others {x : Ix} {n : Nat} (h : RdX x n) {r s : Int} (hr : r ≠ 0) : (attrX x r s allC).1 = 0 ∧ ix (attrX x r s allC).2 0 = 0 := by
  have e : hangs x.k r s allC = (0, [0, 0, 0, 0, 0, 0, 0]) := fold_none r s allC x.k _ fun e he => by
    obtain ⟨_, _, _, _, a, b, _⟩ := h.all e he
    have hc : clashC e.c allC = false := by unfold clashC allC; simp only [a, b]; rfl
    rw [hits_is, hc, Bool.and_false]
  constructor
  · show (hangs x.k r s allC).1 = 0
    rw [e]
  · rw [attr_ix _ _ _ _ (by omega), e, h.d]
    unfold cutI ownI
    rw [if_neg (by simpa using Ne.symm hr), if_neg (by simpa using Ne.symm hr)]
    rfl
theorem rd_own {x : Ix} {n : Nat} (h : RdX x n) {r s : Int} (hr : r ≠ 0) (q : Int) (key : ByteArray) : (attrX x r s ⟨1, 2, q, key, ⟨#[]⟩, ⟨#[]⟩, ⟨#[]⟩⟩).1 = (if 0 < n then 1 else 0) ∧ ix (attrX x r s ⟨1, 2, q, key, ⟨#[]⟩, ⟨#[]⟩, ⟨#[]⟩⟩).2 0 = n := by
  have hh : ∀ e, e ∈ x.k → hits r s ⟨1, 2, q, key, ⟨#[]⟩, ⟨#[]⟩, ⟨#[]⟩⟩ e = true := fun e he => by
    obtain ⟨a, _, _, _, b, c, _⟩ := h.all e he
    have hc : clashC e.c ⟨1, 2, q, key, ⟨#[]⟩, ⟨#[]⟩, ⟨#[]⟩⟩ = true := by unfold clashC; simp only [b, c]; rfl
    have hr2 : (e.r == r) = false := by rw [a]; simpa using Ne.symm hr
    rw [hits_is, hc, hr2]
    rfl
  have hle := hangs_le (k := x.k) (r := r) (s := s) (c := ⟨1, 2, q, key, ⟨#[]⟩, ⟨#[]⟩, ⟨#[]⟩⟩) (if 0 < n then 1 else 0) (fun j => (n : Int)) (by split <;> omega) (fun j => by omega) (fun e he _ => by
    obtain ⟨_, b, c, d, _⟩ := h.all e he
    rw [d, if_pos (by omega)]
    omega)
  have hlow := hangs_low x.k r s ⟨1, 2, q, key, ⟨#[]⟩, ⟨#[]⟩, ⟨#[]⟩⟩
  have hfin : 0 < n → 1 ≤ (hangs x.k r s ⟨1, 2, q, key, ⟨#[]⟩, ⟨#[]⟩, ⟨#[]⟩⟩).1 ∧ (n : Int) ≤ ix (hangs x.k r s ⟨1, 2, q, key, ⟨#[]⟩, ⟨#[]⟩, ⟨#[]⟩⟩).2 0 := fun hn => by
    obtain ⟨e, he, hs⟩ := h.last hn
    obtain ⟨a, b, c, d, _⟩ := h.all e he
    have := hangs_hit he (hh e he) (may_iff.1 (h.kn.ok e he)).1
    rw [a, d, hs] at this
    exact this
  constructor
  · show (hangs x.k r s _).1 = _
    have h1 := hle.1
    have h2 := hlow.1
    by_cases hn : 0 < n
    · rw [if_pos hn] at h1 ⊢
      have := (hfin hn).1
      omega
    · rw [if_neg hn] at h1 ⊢
      omega
  · rw [attr_ix _ _ _ _ (by omega), h.d]
    unfold cutI ownI
    rw [if_neg (by simpa using Ne.symm hr), if_neg (by simpa using Ne.symm hr)]
    have h1 := hle.2 0
    have h2 := hlow.2 0
    show max _ (0 : Int) = n
    by_cases hn : 0 < n
    · have := (hfin hn).2
      omega
    · omega
/-- An Index of the call's own, an instance in a box. -/
structure Qn (W w : World) (q : Nat) (r s : Int) (g b : Nat) (x : Ix) : Prop where
  rn : Rn W w g b x
  bi : Row w q 26 #[.int .i64 r, .int .i64 s]
section
variable {W w w' : World} {q : Nat} {r s : Int} {g b : Nat} {x y : Ix}
theorem Qn.below (h : Qn W w q r s g b x) (k : Below w.heap.size w w') : Qn W w' q r s g b x := ⟨h.rn.below k, h.bi.below k h.bi.lt⟩
theorem Qn.note (h : Qn W w q r s g b x) (hp : Px w' g b y) (k : Kq (fun k => k = b) w w') : Qn W w' q r s g b y := ⟨h.rn.note hp k, k.row h.bi (Ne.symm (mp_off h.rn.px.mp h.bi))⟩
end
theorem rd_note {W w : World} {q : Nat} {r s : Int} {g b m : Nat} {x : Ix} (h : Qn W w q r s g b x) (hx : RdX x m) (hm : m < 20) {key : ByteArray} (h0 : nilB key = false) (h16 : key.size ≤ 16) :
    Calls Try.prog 9 #[.pointer (some ⟨g, 0, none⟩), .agg #[.int .i64 0, .int .i64 ((m : Int) + 1)], .agg #[.int .i64 1, .int .i64 2, .int .i64 ((m : Int) + 1), .string key, .string ⟨#[]⟩, .string ⟨#[]⟩, .string ⟨#[]⟩], .int .i64 0] w
      fun e w' => e = .returned (.bool true) ∧ Qn W w' q r s g b (noteX x 0 ((m + 1 : Nat) : Int) (rdC ((m + 1 : Nat) : Int) key) 0) ∧ RdX (noteX x 0 ((m + 1 : Nat) : Int) (rdC ((m + 1 : Nat) : Int) key) 0) (m + 1) := by
  have h1 := pnote_any g b x 0 ((m + 1 : Nat) : Int) (rdC ((m + 1 : Nat) : Int) key) 0 w h.rn.px (by have := hx.len; omega)
  rw [rd_may hx hm h0 h16] at h1
  exact h1.mono fun _ _ ⟨he, hp, hk⟩ => ⟨he, h.note hp hk, hx.note hm h0 h16⟩
theorem rd_attr1 {W w : World} {q : Nat} {r s : Int} {g b m : Nat} {x : Ix} (h : Qn W w q r s g b x) (hx : RdX x m) (hr : r ≠ 0) :
    Calls Try.prog 12 #[.pointer (some ⟨g, 0, none⟩), .agg #[.int .i64 r, .int .i64 s], .agg #[.int .i64 5, .int .i64 1, .int .i64 1, .string ⟨#[]⟩, .string ⟨#[]⟩, .string ⟨#[]⟩, .string ⟨#[]⟩]] w
      fun e w' => (∃ a2 a3 a4 a5 a6 a7, e = .returned (.agg #[.int .i64 0, .int .i64 0, .int .i64 a2, .int .i64 a3, .int .i64 a4, .int .i64 a5, .int .i64 a6, .int .i64 a7])) ∧ Below w.heap.size w w' := by
  refine (pattr_any g b x r s allC w h.rn.px hx.kn (by show 0 ≤ 140737488355328; omega) hx.small).mono fun e w' ⟨he, hb⟩ => ⟨?_, hb⟩
  obtain ⟨h1, h2⟩ := rd_others hx (s := s) hr
  have h7 := attr_len x r s allC
  generalize attrX x r s allC = T at h1 h2 h7 he
  obtain ⟨m0, d⟩ := T
  obtain ⟨d0, d1, d2, d3, d4, d5, d6, rfl⟩ := len7 h7
  obtain rfl : m0 = 0 := h1
  obtain rfl : d0 = 0 := h2
  exact ⟨_, _, _, _, _, _, he⟩
theorem rd_attr2 {W w : World} {q : Nat} {r s : Int} {g b m : Nat} {x : Ix} (h : Qn W w q r s g b x) (hx : RdX x m) (hr : r ≠ 0) :
    Calls Try.prog 12 #[.pointer (some ⟨g, 0, none⟩), .agg #[.int .i64 r, .int .i64 s], .agg #[.int .i64 1, .int .i64 2, .int .i64 ((m : Int) + 1), .string { data := #[122] }, .string ⟨#[]⟩, .string ⟨#[]⟩, .string ⟨#[]⟩]] w
      fun e w' => (∃ a2 a3 a4 a5 a6 a7, e = .returned (.agg #[.int .i64 (if 0 < m then 1 else 0), .int .i64 m, .int .i64 a2, .int .i64 a3, .int .i64 a4, .int .i64 a5, .int .i64 a6, .int .i64 a7])) ∧ Below w.heap.size w w' := by
  refine (pattr_any g b x r s ⟨1, 2, (m : Int) + 1, { data := #[122] }, ⟨#[]⟩, ⟨#[]⟩, ⟨#[]⟩⟩ w h.rn.px hx.kn (by show 1 ≤ 140737488355328; omega) hx.small).mono fun e w' ⟨he, hb⟩ => ⟨?_, hb⟩
  obtain ⟨h1, h2⟩ := rd_own hx (s := s) hr ((m : Int) + 1) { data := #[122] }
  have h7 := attr_len x r s ⟨1, 2, (m : Int) + 1, { data := #[122] }, ⟨#[]⟩, ⟨#[]⟩, ⟨#[]⟩⟩
  generalize attrX x r s ⟨1, 2, (m : Int) + 1, { data := #[122] }, ⟨#[]⟩, ⟨#[]⟩, ⟨#[]⟩⟩ = T at h1 h2 h7 he
  obtain ⟨m0, d⟩ := T
  obtain ⟨d0, d1, d2, d3, d4, d5, d6, rfl⟩ := len7 h7
  simp only at h1
  subst h1
  obtain rfl : d0 = m := h2
  exact ⟨_, _, _, _, _, _, he⟩
end Go.Proofs.Ytfihcgimgngmhaa
