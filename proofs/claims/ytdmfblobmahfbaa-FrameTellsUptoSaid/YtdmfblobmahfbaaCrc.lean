/- Plain arithmetic of the sum: numbers whose bits are turned in one another. No condition: nothing here speaks of a program. -/
import Derived.Test.YtdmfblobmahfbaaBase
namespace Go.Proofs.Ytdmfblobmahfbaa
/-- One bit further down. -/
def stp (x : Nat) : Nat := x / 2 ^^^ (if x % 2 = 1 then 3988292384 else 0)
def stpN : Nat → Nat → Nat
  | 0, x => x
  | k + 1, x => stp (stpN k x)
theorem stpN_succ (k x : Nat) : stpN (k + 1) x = stp (stpN k x) := rfl
theorem stpN_add (a : Nat) : ∀ b x, stpN (a + b) x = stpN b (stpN a x)
  | 0, _ => rfl
  | b + 1, x => by rw [← Nat.add_assoc, stpN_succ, stpN_add a b x, stpN_succ]
/-- A byte further. -/
def byt (c b : Nat) : Nat := stpN 8 (c ^^^ b)
def crcS (c : Nat) (bs : List Nat) : Nat := bs.foldl byt c
/-- The sum of the document. -/
def crc (c : Nat) (bs : List Nat) : Nat := crcS (c ^^^ 4294967295) bs ^^^ 4294967295

theorem xor_div (a b : Nat) : (a ^^^ b) / 2 = a / 2 ^^^ b / 2 := Nat.xor_div_two
theorem xor_mod (a b : Nat) : (a ^^^ b) % 2 = (a % 2 + b % 2) % 2 := by
  have h : (a ^^^ b) % 2 = 1 ↔ ¬ ((a % 2 = 1) ↔ (b % 2 = 1)) := Nat.xor_mod_two_eq_one
  have ha : a % 2 = 0 ∨ a % 2 = 1 := by omega
  have hb : b % 2 = 0 ∨ b % 2 = 1 := by omega
  omega
theorem eq_of_xor {a b : Nat} (h : a ^^^ b = 0) : a = b := by
  have h1 : a ^^^ b ^^^ b = b := by rw [h, Nat.zero_xor]
  rwa [Nat.xor_assoc, Nat.xor_self, Nat.xor_zero] at h1
theorem xor4 (a b c d : Nat) : (a ^^^ b) ^^^ (c ^^^ d) = (a ^^^ c) ^^^ (b ^^^ d) := by
  rw [Nat.xor_assoc, Nat.xor_assoc, ← Nat.xor_assoc b c d, Nat.xor_comm b c, Nat.xor_assoc c b d]
theorem stp_xor (a b : Nat) : stp (a ^^^ b) = stp a ^^^ stp b := by
  unfold stp
  rw [xor_div, xor_mod, xor4]
  congr 1
  have ha : a % 2 = 0 ∨ a % 2 = 1 := by omega
  have hb : b % 2 = 0 ∨ b % 2 = 1 := by omega
  rcases ha with ha | ha <;> rcases hb with hb | hb <;> simp [ha, hb]
theorem stpN_xor : ∀ k a b, stpN k (a ^^^ b) = stpN k a ^^^ stpN k b
  | 0, _, _ => rfl
  | k + 1, a, b => by rw [stpN_succ, stpN_xor k, stp_xor]; rfl
theorem stp_lt {x : Nat} (h : x < 4294967296) : stp x < 4294967296 := by
  unfold stp
  have : (4294967296 : Nat) = 2 ^ 32 := by decide
  rw [this]
  apply Nat.xor_lt_two_pow
  · omega
  · split <;> decide
theorem stpN_lt {x : Nat} (h : x < 4294967296) : ∀ k, stpN k x < 4294967296
  | 0 => h
  | k + 1 => stp_lt (stpN_lt h k)
theorem stp_double (x : Nat) : stp (2 * x) = x := by
  unfold stp
  have h1 : 2 * x / 2 = x := by omega
  have h2 : ¬ 2 * x % 2 = 1 := by omega
  rw [h1, if_neg h2, Nat.xor_zero]
theorem stpN_pow : ∀ k x, stpN k (2 ^ k * x) = x
  | 0, x => by simp [stpN]
  | k + 1, x => by
    have h : 2 ^ (k + 1) * x = 2 ^ k * (2 * x) := by rw [Nat.pow_succ, Nat.mul_assoc]
    rw [stpN_succ, h, stpN_pow k, stp_double]
theorem stp_zero : stp 0 = 0 := stp_double 0
theorem stpN_zero : ∀ k, stpN k 0 = 0
  | 0 => rfl
  | k + 1 => by rw [stpN_succ, stpN_zero k, stp_zero]
theorem stp_pos {x : Nat} (h0 : 0 < x) (h : x < 4294967296) : 0 < stp x := by
  apply Nat.pos_of_ne_zero
  unfold stp
  intro h1
  have h2 := eq_of_xor h1
  split at h2 <;> omega
theorem stpN_pos {x : Nat} (h0 : 0 < x) (h : x < 4294967296) : ∀ k, 0 < stpN k x
  | 0 => h0
  | k + 1 => stp_pos (stpN_pos h0 h k) (stpN_lt h k)
theorem xor_lt {a b : Nat} (ha : a < 4294967296) (hb : b < 4294967296) : a ^^^ b < 4294967296 := by
  have : (4294967296 : Nat) = 2 ^ 32 := by decide
  rw [this] at *
  exact Nat.xor_lt_two_pow ha hb
def Bytes (bs : List Nat) : Prop := ∀ b, b ∈ bs → b < 256
theorem byt_lt {c b : Nat} (hc : c < 4294967296) (hb : b < 256) : byt c b < 4294967296 := stpN_lt (xor_lt hc (by omega)) 8
theorem crcS_lt : ∀ {bs : List Nat} {c : Nat}, c < 4294967296 → Bytes bs → crcS c bs < 4294967296
  | [], _, h, _ => h
  | b :: bs, _, h, hb => crcS_lt (bs := bs) (byt_lt h (hb b List.mem_cons_self)) (fun x hx => hb x (List.mem_cons_of_mem _ hx))
theorem crc_lt {bs : List Nat} {c : Nat} (h : c < 4294967296) (hb : Bytes bs) : crc c bs < 4294967296 := xor_lt (crcS_lt (xor_lt h (by omega)) hb) (by omega)
theorem crcS_append (c : Nat) (xs ys : List Nat) : crcS c (xs ++ ys) = crcS (crcS c xs) ys := List.foldl_append
theorem xor_cancel (a b : Nat) : a ^^^ b ^^^ b = a := by rw [Nat.xor_assoc, Nat.xor_self, Nat.xor_zero]
theorem crc_append (c : Nat) (xs ys : List Nat) : crc (crc c xs) ys = crc c (xs ++ ys) := by
  unfold crc; rw [xor_cancel, crcS_append]
theorem crc_nil (c : Nat) : crc c [] = c := xor_cancel c _

/-! ### Turned bits: what differs is a great number, of which each byte takes eight bits away -/
theorem byt_xor (a b x y : Nat) : byt (a ^^^ b) (x ^^^ y) = byt a x ^^^ byt b y := by
  unfold byt; rw [xor4, stpN_xor]
theorem high_low (m : Nat) : m = m % 256 ^^^ 2 ^ 8 * (m / 256) := by
  apply Nat.eq_of_testBit_eq
  intro i
  have h : (256 : Nat) = 2 ^ 8 := by decide
  rw [h, Nat.testBit_xor, Nat.testBit_mod_two_pow, Nat.testBit_two_pow_mul, Nat.testBit_div_two_pow]
  by_cases hi : i < 8
  · have : ¬ i ≥ 8 := by omega
    simp [hi, this]
  · have h2 : i ≥ 8 := by omega
    have h3 : i - 8 + 8 = i := by omega
    simp [hi, h2, h3]
theorem byt_high (d m : Nat) : stpN 8 (d ^^^ m) = byt d (m % 256) ^^^ m / 256 := by
  have h : stpN 8 (d ^^^ m) = stpN 8 ((d ^^^ m % 256) ^^^ 2 ^ 8 * (m / 256)) := by
    rw [Nat.xor_assoc, ← high_low]
  rw [h, stpN_xor, stpN_pow]; rfl
/-- ys is xs with the bits of m turned. -/
def Turned : Nat → List Nat → List Nat → Prop
  | m, [], ys => ys = [] ∧ m = 0
  | m, x :: xs, ys => ∃ y yt, ys = y :: yt ∧ y = x ^^^ m % 256 ∧ Turned (m / 256) xs yt
theorem turned_crc : ∀ {xs ys : List Nat} {m : Nat}, Turned m xs ys → ∀ c d, stpN (8 * xs.length) (d ^^^ m) = crcS c xs ^^^ crcS (c ^^^ d) ys
  | [], ys, m, h, c, d => by
    obtain ⟨rfl, rfl⟩ := h
    show d ^^^ 0 = c ^^^ (c ^^^ d)
    rw [← Nat.xor_assoc, Nat.xor_self, Nat.zero_xor, Nat.xor_zero]
  | x :: xs, ys, m, h, c, d => by
    obtain ⟨y, yt, rfl, rfl, ht⟩ := h
    have ih := turned_crc ht (byt c x) (byt d (m % 256))
    have e : 8 * (x :: xs).length = 8 + 8 * xs.length := by rw [List.length_cons]; omega
    rw [e, stpN_add, byt_high, ih, ← byt_xor]
    rfl
theorem turned_length : ∀ {xs ys : List Nat} {m : Nat}, Turned m xs ys → ys.length = xs.length
  | [], _, _, h => by rw [h.1]
  | _ :: _, _, _, h => by obtain ⟨y, yt, rfl, _, ht⟩ := h; rw [List.length_cons, List.length_cons, turned_length ht]
theorem turned_lt : ∀ {xs ys : List Nat} {m : Nat}, Turned m xs ys → m < 2 ^ (8 * xs.length)
  | [], _, _, h => by rw [h.2]; decide
  | x :: xs, _, m, h => by
    obtain ⟨y, yt, rfl, _, ht⟩ := h
    have := turned_lt ht
    have e : 8 * (x :: xs).length = 8 * xs.length + 8 := by rw [List.length_cons]; omega
    rw [e, Nat.pow_add]
    omega
/-- Bits that lie within 32 one behind the other: another sum, just if there are any. -/
theorem crc_unlike {xs ys : List Nat} {at_ b c : Nat} (h : Turned (2 ^ at_ * b) xs ys) (hb : b < 4294967296) : (crc c xs = crc c ys) ↔ b = 0 := by
  have h1 := turned_crc h (c ^^^ 4294967295) 0
  rw [Nat.zero_xor, Nat.xor_zero] at h1
  have hlt := turned_lt h
  constructor
  · intro he
    unfold crc at he
    have h2 : crcS (c ^^^ 4294967295) xs = crcS (c ^^^ 4294967295) ys := by
      have := congrArg (· ^^^ 4294967295) he
      simpa [xor_cancel] using this
    rw [h2, Nat.xor_self] at h1
    apply Nat.eq_zero_of_not_pos
    intro hpos
    have hle : at_ ≤ 8 * xs.length := by
      rcases Nat.lt_or_ge (8 * xs.length) at_ with h3 | h3
      · have h4 : 2 ^ (8 * xs.length) ≤ 2 ^ at_ := Nat.pow_le_pow_right (by omega) (by omega)
        have h5 : 2 ^ at_ * 1 ≤ 2 ^ at_ * b := Nat.mul_le_mul_left _ hpos
        omega
      · exact h3
    have e : 8 * xs.length = at_ + (8 * xs.length - at_) := by omega
    rw [e, stpN_add, stpN_pow] at h1
    have := stpN_pos hpos hb (8 * xs.length - at_)
    omega
  · rintro rfl
    rw [Nat.mul_zero, stpN_zero] at h1
    unfold crc
    rw [eq_of_xor h1.symm]
theorem turned_refl : ∀ xs, Turned 0 xs xs
  | [] => ⟨rfl, rfl⟩
  | x :: xs => ⟨x, xs, rfl, by simp, by simpa using turned_refl xs⟩
/-- One bit more. -/
theorem turned_set : ∀ {xs ys : List Nat} {m i : Nat}, Turned m xs ys → i < 8 * xs.length → Turned (m ^^^ 2 ^ i) xs (ys.set (i / 8) (ys.getD (i / 8) 0 ^^^ 2 ^ (i % 8)))
  | [], _, _, _, _, hi => by simp at hi
  | x :: xs, _, m, i, h, hi => by
    obtain ⟨y, yt, rfl, rfl, ht⟩ := h
    have p8 : (256 : Nat) = 2 ^ 8 := by decide
    by_cases h8 : i < 8
    · have e0 : i / 8 = 0 := by omega
      have e1 : i % 8 = i := by omega
      rw [e0, e1]
      refine ⟨_, yt, rfl, ?_, ?_⟩
      · show x ^^^ m % 256 ^^^ 2 ^ i = x ^^^ (m ^^^ 2 ^ i) % 256
        have : (m ^^^ 2 ^ i) % 256 = m % 256 ^^^ 2 ^ i := by
          rw [p8, Nat.xor_mod_two_pow, Nat.mod_eq_of_lt (Nat.pow_lt_pow_right (by omega) h8)]
        rw [this, Nat.xor_assoc]
      · have : (m ^^^ 2 ^ i) / 256 = m / 256 := by
          rw [p8, Nat.xor_div_two_pow, Nat.div_eq_of_lt (Nat.pow_lt_pow_right (by omega) h8), Nat.xor_zero]
        rw [this]; exact ht
    · have e0 : i / 8 = (i - 8) / 8 + 1 := by omega
      have e1 : i % 8 = (i - 8) % 8 := by omega
      rw [e0, e1]
      have hl : i - 8 < 8 * xs.length := by rw [List.length_cons] at hi; omega
      have e2 : 2 ^ i = 256 * 2 ^ (i - 8) := by rw [p8, ← Nat.pow_add]; congr 1; omega
      refine ⟨_, _, rfl, ?_, ?_⟩
      · have : (m ^^^ 2 ^ i) % 256 = m % 256 := by
          rw [p8, Nat.xor_mod_two_pow, e2, p8, Nat.mul_mod_right, Nat.xor_zero]
        rw [this]
      · have : (m ^^^ 2 ^ i) / 256 = m / 256 ^^^ 2 ^ (i - 8) := by
          rw [p8, Nat.xor_div_two_pow, e2, p8, Nat.mul_div_cancel_left _ (by decide)]
        rw [this]; exact turned_set ht hl
end Go.Proofs.Ytdmfblobmahfbaa
