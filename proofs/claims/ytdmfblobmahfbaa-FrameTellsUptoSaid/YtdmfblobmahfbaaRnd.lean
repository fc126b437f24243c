/- Bits turned one behind the other in an own slice: what a round leaves. No condition: nothing here speaks of one function. -/
import Derived.Test.YtdmfblobmahfbaaSeq
import Derived.Test.YtdmfblobmahfbaaScn
namespace Go.Proofs.Ytdmfblobmahfbaa
open Go.RowKit
/-- The bits of the burst that are turned behind k rounds. -/
def took (b lim k : Nat) : Nat := b % 2 ^ (min k lim)
theorem took_zero (b lim : Nat) : took b lim 0 = 0 := by unfold took; rw [Nat.zero_min, Nat.pow_zero, Nat.mod_one]
theorem mod_succ (b k : Nat) : b % 2 ^ (k + 1) = b % 2 ^ k + 2 ^ k * (b / 2 ^ k % 2) := by
  rw [Nat.pow_succ, Nat.mod_mul]
theorem took_no (b lim k : Nat) (h : ¬ (b / 2 ^ k % 2 = 1 ∧ k < lim)) : took b lim (k + 1) = took b lim k := by
  unfold took
  by_cases hl : k < lim
  · have h0 : b / 2 ^ k % 2 = 0 := by omega
    rw [Nat.min_eq_left (by omega), Nat.min_eq_left (by omega), mod_succ, h0, Nat.mul_zero, Nat.add_zero]
  · rw [Nat.min_eq_right (by omega), Nat.min_eq_right (by omega)]
theorem took_yes (b lim k : Nat) (h1 : b / 2 ^ k % 2 = 1) (h2 : k < lim) : took b lim (k + 1) = took b lim k ^^^ 2 ^ k := by
  unfold took
  rw [Nat.min_eq_left (by omega), Nat.min_eq_left (by omega), mod_succ, h1, Nat.mul_one]
  have hlt : b % 2 ^ k < 2 ^ k := Nat.mod_lt _ (Nat.two_pow_pos k)
  apply Nat.eq_of_testBit_eq
  intro i
  have e : b % 2 ^ k + 2 ^ k = 2 ^ k * 1 + b % 2 ^ k := by omega
  rw [e, Nat.testBit_two_pow_mul_add _ hlt, Nat.testBit_xor, Nat.testBit_two_pow]
  by_cases hi : i < k
  · have : ¬ k = i := by omega
    simp [hi, this]
  · have h3 : (b % 2 ^ k).testBit i = false := Nat.testBit_lt_two_pow (Nat.lt_of_lt_of_le hlt (Nat.pow_le_pow_right (by omega) (by omega)))
    rw [h3, if_neg hi]
    by_cases h4 : k = i
    · subst h4; simp
    · have h5 : i - k ≠ 0 := by omega
      have h6 : Nat.testBit 1 (i - k) = false := Nat.testBit_lt_two_pow (Nat.one_lt_two_pow h5)
      simp [h4, h6]
theorem took_lt (b lim k : Nat) (hb : b < 4294967296) : took b lim k < 4294967296 := Nat.lt_of_le_of_lt (Nat.mod_le _ _) hb
theorem shift_xor (at_ x k : Nat) : 2 ^ at_ * (x ^^^ 2 ^ k) = 2 ^ at_ * x ^^^ 2 ^ (at_ + k) := by
  rw [Nat.pow_add]
  apply Nat.eq_of_testBit_eq
  intro i
  rw [Nat.testBit_xor, Nat.testBit_two_pow_mul, Nat.testBit_two_pow_mul, Nat.testBit_two_pow_mul, Nat.testBit_xor]
  by_cases h : i ≥ at_ <;> simp [h]
theorem took_pos {b lim k : Nat} (h1 : b / 2 ^ k % 2 = 1) (h2 : k < lim) : took b lim (k + 1) ≠ 0 := by
  unfold took
  rw [Nat.min_eq_left (by omega), mod_succ, h1, Nat.mul_one]
  have := Nat.two_pow_pos k
  omega
theorem bit_test (b k : Nat) (h : b < 4294967296) : bits .and .u32 ((b : Int) / 2 ^ k) 1 = ((b / 2 ^ k % 2 : Nat) : Int) := by
  have e : ((b : Int) / 2 ^ k) = ((b / 2 ^ k : Nat) : Int) := by
    rw [Int.natCast_ediv]; congr 1
  rw [e]
  exact u32_and_one _ (Nat.lt_of_le_of_lt (Nat.div_le_self _ _) h)
def anyB (b lim k : Nat) : Bool := decide (took b lim k ≠ 0)
/-- Behind k rounds. -/
structure Round (W wr : World) (g cap n T B k : Nat) (zs ys : List Int) : Prop where
  len : ys.length = n
  oct : Octets ys
  turned : Turned (2 ^ T * took B (8 * n - T) k) (nats zs) (nats ys)
  own : wr.ownsRow W.heap.size 5 1 (.slice (some ⟨g, 0, none⟩) n cap) n (cellsOf ys)
  old : Below W.heap.size W wr
theorem nats_set (ys : List Int) (q z : Nat) : nats (ys.set q (z : Int)) = (nats ys).set q z := by
  unfold nats; rw [List.map_set]; rfl
theorem nats_getD (ys : List Int) (q : Nat) : (nats ys).getD q 0 = (ix ys q).toNat := by
  unfold nats ix; rw [List.getD_eq_getElem?_getD, List.getElem?_map, List.getD_eq_getElem?_getD]
  cases ys[q]? <;> rfl
theorem Round.next {W wr : World} {g cap n T B k q r : Nat} {zs ys : List Int} (h : Round W wr g cap n T B k zs ys) (hg : W.heap.size ≤ g) (hq : q < n) (hr : r < 8) (hqr : T + k = 8 * q + r)
    (ht : took B (8 * n - T) (k + 1) = took B (8 * n - T) k ^^^ 2 ^ k) :
    Round W (wr.setCell ⟨g, q, none⟩ (.int .u8 (bits .xor .u8 (ix ys q) (2 ^ r % 256)))).drew g cap n T B (k + 1) zs (ys.set q ((ix ys q).toNat ^^^ 2 ^ r : Nat)) := by
  have ho := h.oct.ix q
  have h2 : 2 ^ r < 2 ^ 8 := Nat.pow_lt_pow_right (by omega) hr
  rw [show (2 : Nat) ^ 8 = 256 from rfl] at h2
  have hx : (ix ys q).toNat ^^^ 2 ^ r < 256 := Nat.xor_lt_two_pow (n := 8) (by omega) h2
  have hv : bits .xor .u8 (ix ys q) (2 ^ r % 256) = (((ix ys q).toNat ^^^ 2 ^ r : Nat) : Int) := by
    have e1 : ((2 : Int) ^ r % 256) = ((2 ^ r : Nat) : Int) := by
      have : ((2 ^ r : Nat) : Int) = (2 : Int) ^ r := by push_cast; rfl
      rw [← this]; exact Int.emod_eq_of_lt (Int.natCast_nonneg _) (Int.ofNat_lt.2 h2)
    rw [e1]
    have e := u8_xor_nat (ix ys q).toNat (2 ^ r) (by omega) h2
    rwa [Int.toNat_of_nonneg ho.1] at e
  rw [hv]
  refine ⟨by rw [List.length_set]; exact h.len, ?_, ?_, ?_, (h.old.setCell (p := ⟨g, q, none⟩) hg _).drew⟩
  · intro z hz
    rcases List.mem_or_eq_of_mem_set hz with h1 | h1
    · exact h.oct z h1
    · subst h1; omega
  · have hl := turned_length h.turned
    rw [length_nats, length_nats] at hl
    have hi := turned_set (i := T + k) h.turned (by rw [length_nats, ← hl, h.len]; omega)
    have e1 : (T + k) / 8 = q := by omega
    have e2 : (T + k) % 8 = r := by omega
    rw [e1, e2, nats_getD, ← nats_set] at hi
    rw [ht, shift_xor]
    exact hi
  · have hst := (h.own.stored q (.int .u8 (((ix ys q).toNat ^^^ 2 ^ r : Nat) : Int))).1
    unfold cellsOf at hst ⊢
    rw [List.map_set]
    exact hst.drew
/-- What is found behind the turning. -/
theorem turned_all {p q ys : List Int} {T b k0 : Nat} (op : Octets p) (oq : Octets q) (oy : Octets ys) (hp : p.length ≤ 1000) (hq : May q.length) (hk : (putF [] p).length = k0)
    (h : Turned (2 ^ T * b) (nats (putF [] p ++ frm q)) (nats ys)) (hT : 8 * (k0 + 2) ≤ T) (hb : b < 4294967296) :
    (b = 0 → ∃ J, Upto ys J ∧ plc ys J = k0 + q.length + 6) ∧ (b ≠ 0 → ∃ J, Upto ys J ∧ plc ys J = k0 ∧ ((k0 = 0 ∧ J = 0) ∨ (0 < k0 ∧ J = 1))) := by
  obtain ⟨F, hF, hR, hJ⟩ : ∃ F, putF [] p = enc F ∧ Right F ∧ ((k0 = 0 ∧ F.length = 0) ∨ (0 < k0 ∧ F.length = 1)) := by
    by_cases hM : May p.length
    · refine ⟨[p], by unfold putF; rw [if_pos hM, enc_one, List.nil_append], fun r hr => (by rw [List.mem_singleton] at hr; subst hr; exact ⟨hM, op⟩), .inr ⟨?_, rfl⟩⟩
      rw [← hk]; unfold putF; rw [if_pos hM, List.nil_append, length_frm]; omega
    · refine ⟨[], by unfold putF; rw [if_neg hM]; rfl, fun r hr => (by cases hr), .inl ⟨?_, rfl⟩⟩
      rw [← hk]; unfold putF; rw [if_neg hM]; rfl
  rw [hF] at h hk
  constructor
  · rintro rfl
    rw [Nat.mul_zero] at h
    have e : ys = enc F ++ frm q := nats_inj oy ((octets_enc hR).append (octets_frm oq)) (turned_zero h)
    have hR2 : Right (F ++ [q]) := fun r hr => by
      rcases List.mem_append.1 hr with h1 | h1
      · exact hR r h1
      · rw [List.mem_singleton] at h1; subst h1; exact ⟨hq, oq⟩
    have h1 := enc_upto (r := []) hR2 nxE_nil
    rw [List.append_nil, enc_append, enc_one, ← e] at h1
    refine ⟨_, h1.1, ?_⟩
    rw [h1.2.1, e, List.length_append, hk, length_frm]; omega
  · intro h0
    obtain ⟨t1, t2⟩ := parts_turned h
    rw [hk] at t1 t2
    have e0 : 2 ^ T * b % 2 ^ (8 * k0) = 0 := by
      have : T = 8 * k0 + (T - 8 * k0) := by omega
      rw [this, Nat.pow_add, Nat.mul_assoc]
      exact Nat.mul_mod_right _ _
    have e1 : 2 ^ T * b / 2 ^ (8 * k0) = 2 ^ (T - 8 * k0) * b := by
      have : T = 8 * k0 + (T - 8 * k0) := by omega
      rw [this, Nat.pow_add, Nat.mul_assoc, Nat.mul_div_cancel_left _ (Nat.two_pow_pos _)]
      congr 2; omega
    rw [e0] at t1
    rw [e1] at t2
    have hE := nxE_turned hq oq (fun z hz => oy z (List.mem_of_mem_drop hz)) t2 (by omega) hb h0
    have hT2 : ys.take k0 = enc F := nats_inj (fun z hz => oy z (List.mem_of_mem_take hz)) (octets_enc hR) (turned_zero t1)
    have h1 := enc_upto (r := ys.drop k0) hR hE
    rw [← hT2, List.take_append_drop] at h1
    refine ⟨F.length, h1.1, ?_, hJ⟩
    rw [h1.2.1, hT2, hk]
theorem Scanned.is {w w' : World} {zs : List Int} {e : Ending} {J : Nat} (h : Scanned w zs e w') (hJ : Upto zs J) :
    ∃ A' c', e = .returned (.tuple #[.slice A' J c', .int .i64 ((plc zs J : Nat) : Int)]) ∧ J ≤ c' ∧ PartsL w' A' (pays zs J) ∧ Below w.heap.size w w' := by
  obtain ⟨K, A', c', hK, he, hc, hp, hb⟩ := h
  obtain rfl := hK.same hJ
  exact ⟨A', c', he, hc, hp, hb⟩
end Go.Proofs.Ytdmfblobmahfbaa
