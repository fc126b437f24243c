/- Plain arithmetic of the sum: numbers whose bits are turned in one another. No condition: nothing here speaks of a program. -/
import Derived.Test.YtkmcnhjfnjikaaaGreatDoorKbas
import Derived.Test.YtkmcnhjfnjikaaaGreatDoorRows
import Derived.LoopTactic
import Derived.Deep.DeepCutAuto
import Derived.Lib.SliceRun
import Derived.Test.YtkmcnhjfnjikaaaGreatDoorKpur
import Derived.Test.YtkmcnhjfnjikaaaGreatDoorItlay
namespace Go.Proofs.YtkmcnhjfnjikaaaGreatDoor
/-- One bit further down. -/
def stp (x : Nat) : Nat := x / 2 ^^^ (if x % 2 = 1 then 3988292384 else 0)
def stpN : Nat → Nat → Nat
  | 0, x => x
  | k + 1, x => stp (stpN k x)
theorem stpN_succ (k x : Nat) : stpN (k + 1) x = stp (stpN k x) := rfl
theorem stpN_add (a : Nat) : ∀ b x, stpN (a + b) x = stpN b (stpN a x)
  | 0, _ => rfl
  | b + 1, x => by rw [← Nat.add_assoc, stpN_succ, stpN_add a b x, stpN_succ]
/-- A byte further. -/
def byt (c b : Nat) : Nat := stpN 8 (c ^^^ b)
def crcS (c : Nat) (bs : List Nat) : Nat := bs.foldl byt c
/-- The sum of the document. -/
def crc (c : Nat) (bs : List Nat) : Nat := crcS (c ^^^ 4294967295) bs ^^^ 4294967295

theorem xor_div (a b : Nat) : (a ^^^ b) / 2 = a / 2 ^^^ b / 2 := Nat.xor_div_two
theorem xor_mod (a b : Nat) : (a ^^^ b) % 2 = (a % 2 + b % 2) % 2 := by
  have h : (a ^^^ b) % 2 = 1 ↔ ¬ ((a % 2 = 1) ↔ (b % 2 = 1)) := Nat.xor_mod_two_eq_one
  have ha : a % 2 = 0 ∨ a % 2 = 1 := by omega
  have hb : b % 2 = 0 ∨ b % 2 = 1 := by omega
  omega
theorem eq_of_xor {a b : Nat} (h : a ^^^ b = 0) : a = b := by
  have h1 : a ^^^ b ^^^ b = b := by rw [h, Nat.zero_xor]
  rwa [Nat.xor_assoc, Nat.xor_self, Nat.xor_zero] at h1
theorem xor4 (a b c d : Nat) : (a ^^^ b) ^^^ (c ^^^ d) = (a ^^^ c) ^^^ (b ^^^ d) := by
  rw [Nat.xor_assoc, Nat.xor_assoc, ← Nat.xor_assoc b c d, Nat.xor_comm b c, Nat.xor_assoc c b d]
theorem stp_xor (a b : Nat) : stp (a ^^^ b) = stp a ^^^ stp b := by
  unfold stp
  rw [xor_div, xor_mod, xor4]
  congr 1
  have ha : a % 2 = 0 ∨ a % 2 = 1 := by omega
  have hb : b % 2 = 0 ∨ b % 2 = 1 := by omega
  rcases ha with ha | ha <;> rcases hb with hb | hb <;> simp [ha, hb]
theorem stpN_xor : ∀ k a b, stpN k (a ^^^ b) = stpN k a ^^^ stpN k b
  | 0, _, _ => rfl
  | k + 1, a, b => by rw [stpN_succ, stpN_xor k, stp_xor]; rfl
theorem stp_lt {x : Nat} (h : x < 4294967296) : stp x < 4294967296 := by
  unfold stp
  have : (4294967296 : Nat) = 2 ^ 32 := by decide
  rw [this]
  apply Nat.xor_lt_two_pow
  · omega
  · split <;> decide
theorem stpN_lt {x : Nat} (h : x < 4294967296) : ∀ k, stpN k x < 4294967296
  | 0 => h
  | k + 1 => stp_lt (stpN_lt h k)
theorem stp_double (x : Nat) : stp (2 * x) = x := by
  unfold stp
  have h1 : 2 * x / 2 = x := by omega
  have h2 : ¬ 2 * x % 2 = 1 := by omega
  rw [h1, if_neg h2, Nat.xor_zero]
theorem stpN_pow : ∀ k x, stpN k (2 ^ k * x) = x
  | 0, x => by simp [stpN]
  | k + 1, x => by
    have h : 2 ^ (k + 1) * x = 2 ^ k * (2 * x) := by rw [Nat.pow_succ, Nat.mul_assoc]
    rw [stpN_succ, h, stpN_pow k, stp_double]
theorem stp_zero : stp 0 = 0 := stp_double 0
theorem stpN_zero : ∀ k, stpN k 0 = 0
  | 0 => rfl
  | k + 1 => by rw [stpN_succ, stpN_zero k, stp_zero]
theorem stp_pos {x : Nat} (h0 : 0 < x) (h : x < 4294967296) : 0 < stp x := by
  apply Nat.pos_of_ne_zero
  unfold stp
  intro h1
  have h2 := eq_of_xor h1
  split at h2 <;> omega
theorem stpN_pos {x : Nat} (h0 : 0 < x) (h : x < 4294967296) : ∀ k, 0 < stpN k x
  | 0 => h0
  | k + 1 => stp_pos (stpN_pos h0 h k) (stpN_lt h k)
theorem xor_lt {a b : Nat} (ha : a < 4294967296) (hb : b < 4294967296) : a ^^^ b < 4294967296 := by
  have : (4294967296 : Nat) = 2 ^ 32 := by decide
  rw [this] at *
  exact Nat.xor_lt_two_pow ha hb
def Bytes (bs : List Nat) : Prop := ∀ b, b ∈ bs → b < 256
theorem byt_lt {c b : Nat} (hc : c < 4294967296) (hb : b < 256) : byt c b < 4294967296 := stpN_lt (xor_lt hc (by omega)) 8
theorem crcS_lt : ∀ {bs : List Nat} {c : Nat}, c < 4294967296 → Bytes bs → crcS c bs < 4294967296
  | [], _, h, _ => h
  | b :: bs, _, h, hb => crcS_lt (bs := bs) (byt_lt h (hb b List.mem_cons_self)) (fun x hx => hb x (List.mem_cons_of_mem _ hx))
theorem crc_lt {bs : List Nat} {c : Nat} (h : c < 4294967296) (hb : Bytes bs) : crc c bs < 4294967296 := xor_lt (crcS_lt (xor_lt h (by omega)) hb) (by omega)
theorem crcS_append (c : Nat) (xs ys : List Nat) : crcS c (xs ++ ys) = crcS (crcS c xs) ys := List.foldl_append
theorem xor_cancel (a b : Nat) : a ^^^ b ^^^ b = a := by rw [Nat.xor_assoc, Nat.xor_self, Nat.xor_zero]
theorem crc_append (c : Nat) (xs ys : List Nat) : crc (crc c xs) ys = crc c (xs ++ ys) := by
  unfold crc; rw [xor_cancel, crcS_append]
theorem crc_nil (c : Nat) : crc c [] = c := xor_cancel c _

/-! ### Turned bits: what differs is a great number, of which each byte takes eight bits away -/
theorem byt_xor (a b x y : Nat) : byt (a ^^^ b) (x ^^^ y) = byt a x ^^^ byt b y := by
  unfold byt; rw [xor4, stpN_xor]
theorem high_low (m : Nat) : m = m % 256 ^^^ 2 ^ 8 * (m / 256) := by
  apply Nat.eq_of_testBit_eq
  intro i
  have h : (256 : Nat) = 2 ^ 8 := by decide
  rw [h, Nat.testBit_xor, Nat.testBit_mod_two_pow, Nat.testBit_two_pow_mul, Nat.testBit_div_two_pow]
  by_cases hi : i < 8
  · have : ¬ i ≥ 8 := by omega
    simp [hi, this]
  · have h2 : i ≥ 8 := by omega
    have h3 : i - 8 + 8 = i := by omega
    simp [hi, h2, h3]
theorem byt_high (d m : Nat) : stpN 8 (d ^^^ m) = byt d (m % 256) ^^^ m / 256 := by
  have h : stpN 8 (d ^^^ m) = stpN 8 ((d ^^^ m % 256) ^^^ 2 ^ 8 * (m / 256)) := by
    rw [Nat.xor_assoc, ← high_low]
  rw [h, stpN_xor, stpN_pow]; rfl
/-- ys is xs with the bits of m turned. -/
def Turned : Nat → List Nat → List Nat → Prop
  | m, [], ys => ys = [] ∧ m = 0
  | m, x :: xs, ys => ∃ y yt, ys = y :: yt ∧ y = x ^^^ m % 256 ∧ Turned (m / 256) xs yt
theorem turned_crc : ∀ {xs ys : List Nat} {m : Nat}, Turned m xs ys → ∀ c d, stpN (8 * xs.length) (d ^^^ m) = crcS c xs ^^^ crcS (c ^^^ d) ys
  | [], ys, m, h, c, d => by
    obtain ⟨rfl, rfl⟩ := h
    show d ^^^ 0 = c ^^^ (c ^^^ d)
    rw [← Nat.xor_assoc, Nat.xor_self, Nat.zero_xor, Nat.xor_zero]
  | x :: xs, ys, m, h, c, d => by
    obtain ⟨y, yt, rfl, rfl, ht⟩ := h
    have ih := turned_crc ht (byt c x) (byt d (m % 256))
    have e : 8 * (x :: xs).length = 8 + 8 * xs.length := by rw [List.length_cons]; omega
    rw [e, stpN_add, byt_high, ih, ← byt_xor]
    rfl
theorem turned_length : ∀ {xs ys : List Nat} {m : Nat}, Turned m xs ys → ys.length = xs.length
  | [], _, _, h => by rw [h.1]
  | _ :: _, _, _, h => by obtain ⟨y, yt, rfl, _, ht⟩ := h; rw [List.length_cons, List.length_cons, turned_length ht]
theorem turned_lt : ∀ {xs ys : List Nat} {m : Nat}, Turned m xs ys → m < 2 ^ (8 * xs.length)
  | [], _, _, h => by rw [h.2]; decide
  | x :: xs, _, m, h => by
    obtain ⟨y, yt, rfl, _, ht⟩ := h
    have := turned_lt ht
    have e : 8 * (x :: xs).length = 8 * xs.length + 8 := by rw [List.length_cons]; omega
    rw [e, Nat.pow_add]
    omega
/-- Bits that lie within 32 one behind the other: another sum, just if there are any. -/
theorem crc_unlike {xs ys : List Nat} {at_ b c : Nat} (h : Turned (2 ^ at_ * b) xs ys) (hb : b < 4294967296) : (crc c xs = crc c ys) ↔ b = 0 := by
  have h1 := turned_crc h (c ^^^ 4294967295) 0
  rw [Nat.zero_xor, Nat.xor_zero] at h1
  have hlt := turned_lt h
  constructor
  · intro he
    unfold crc at he
    have h2 : crcS (c ^^^ 4294967295) xs = crcS (c ^^^ 4294967295) ys := by
      have := congrArg (· ^^^ 4294967295) he
      simpa [xor_cancel] using this
    rw [h2, Nat.xor_self] at h1
    apply Nat.eq_zero_of_not_pos
    intro hpos
    have hle : at_ ≤ 8 * xs.length := by
      rcases Nat.lt_or_ge (8 * xs.length) at_ with h3 | h3
      · have h4 : 2 ^ (8 * xs.length) ≤ 2 ^ at_ := Nat.pow_le_pow_right (by omega) (by omega)
        have h5 : 2 ^ at_ * 1 ≤ 2 ^ at_ * b := Nat.mul_le_mul_left _ hpos
        omega
      · exact h3
    have e : 8 * xs.length = at_ + (8 * xs.length - at_) := by omega
    rw [e, stpN_add, stpN_pow] at h1
    have := stpN_pos hpos hb (8 * xs.length - at_)
    omega
  · rintro rfl
    rw [Nat.mul_zero, stpN_zero] at h1
    unfold crc
    rw [eq_of_xor h1.symm]
theorem turned_refl : ∀ xs, Turned 0 xs xs
  | [] => ⟨rfl, rfl⟩
  | x :: xs => ⟨x, xs, rfl, by simp, by simpa using turned_refl xs⟩
/-- One bit more. -/
theorem turned_set : ∀ {xs ys : List Nat} {m i : Nat}, Turned m xs ys → i < 8 * xs.length → Turned (m ^^^ 2 ^ i) xs (ys.set (i / 8) (ys.getD (i / 8) 0 ^^^ 2 ^ (i % 8)))
  | [], _, _, _, _, hi => by simp at hi
  | x :: xs, _, m, i, h, hi => by
    obtain ⟨y, yt, rfl, rfl, ht⟩ := h
    have p8 : (256 : Nat) = 2 ^ 8 := by decide
    by_cases h8 : i < 8
    · have e0 : i / 8 = 0 := by omega
      have e1 : i % 8 = i := by omega
      rw [e0, e1]
      refine ⟨_, yt, rfl, ?_, ?_⟩
      · show x ^^^ m % 256 ^^^ 2 ^ i = x ^^^ (m ^^^ 2 ^ i) % 256
        have : (m ^^^ 2 ^ i) % 256 = m % 256 ^^^ 2 ^ i := by
          rw [p8, Nat.xor_mod_two_pow, Nat.mod_eq_of_lt (Nat.pow_lt_pow_right (by omega) h8)]
        rw [this, Nat.xor_assoc]
      · have : (m ^^^ 2 ^ i) / 256 = m / 256 := by
          rw [p8, Nat.xor_div_two_pow, Nat.div_eq_of_lt (Nat.pow_lt_pow_right (by omega) h8), Nat.xor_zero]
        rw [this]; exact ht
    · have e0 : i / 8 = (i - 8) / 8 + 1 := by omega
      have e1 : i % 8 = (i - 8) % 8 := by omega
      rw [e0, e1]
      have hl : i - 8 < 8 * xs.length := by rw [List.length_cons] at hi; omega
      have e2 : 2 ^ i = 256 * 2 ^ (i - 8) := by rw [p8, ← Nat.pow_add]; congr 1; omega
      refine ⟨_, _, rfl, ?_, ?_⟩
      · have : (m ^^^ 2 ^ i) % 256 = m % 256 := by
          rw [p8, Nat.xor_mod_two_pow, e2, p8, Nat.mul_mod_right, Nat.xor_zero]
        rw [this]
      · have : (m ^^^ 2 ^ i) / 256 = m / 256 ^^^ 2 ^ (i - 8) := by
          rw [p8, Nat.xor_div_two_pow, e2, p8, Nat.mul_div_cancel_left _ (by decide)]
        rw [this]; exact turned_set ht hl
end Go.Proofs.YtkmcnhjfnjikaaaGreatDoor
/- What package sum's functions and the document's own answer come to. Conditions: the bounds of the arguments' kinds; the bytes lie in memory. -/
namespace Go.Proofs.YtkmcnhjfnjikaaaGreatDoor
open Go.RowKit
def nats (zs : List Int) : List Nat := zs.map Int.toNat
theorem stp_walk (x : Nat) (h : x < 4294967296) (h1 : x % 2 = 1) : bits .xor .u32 ((x / 2 : Nat) : Int) 3988292384 = (stp x : Nat) := by
  have e := u32_xor_nat (x / 2) 3988292384 (by omega) (by omega)
  unfold stp; rw [if_pos h1]; exact e
theorem stp_even (x : Nat) (h1 : ¬ x % 2 = 1) : x / 2 = stp x := by
  unfold stp; rw [if_neg h1, Nat.xor_zero]
theorem u32_and_one (x : Nat) (h : x < 4294967296) : bits .and .u32 (x : Int) 1 = (x % 2 : Nat) := by
  have e := u32_and_nat x 1 h (by omega)
  refine e.trans ?_
  rw [Nat.and_one_is_mod]
set_option maxHeartbeats 400000 in
theorem down_any (x : Nat) (w : World) (h0 : x < 4294967296) :
    Calls Tryz.prog 132 #[.int .u32 x] w fun e w' => e = .returned (.int .u32 (stpN 8 x : Nat)) ∧ w = w' := by
  go_enter Tryz.func132, Tryz.ntmps132
  go_wp2
  go_loop [0, 4] (fun c i => ∃ k : Nat, k ≤ 8 ∧ i = .int .i64 k ∧ c = .int .u32 (stpN k x : Nat)) (fun _ i => 8 - (intOf i).toNat)
  case atStart => exact ⟨0, by omega, rfl, rfl⟩
  case round =>
    obtain ⟨k, hk, rfl, rfl⟩ := hrel
    by_cases hlt : k < 8
    · have hl := stpN_lt h0 k
      have ha := u32_and_one _ hl
      have hs := hide (stpN_succ k x)
      generalize stpN k x = y at *
      by_cases c : y % 2 = 1
      · have hb : ((bits .and .u32 (y : Int) 1 : Int) == 1) = true := by rw [ha, c]; rfl
        have hw := hide (stp_walk y hl c)
        clear ha c
        go_wp2
        go_round
        case rel => exact ⟨k + 1, by omega, by go_num, by rw [hs.out, ← hw.out]; congr 1⟩
        case measure => simp [intOf]; omega
      · have hb : ((bits .and .u32 (y : Int) 1 : Int) == 1) = false := by rw [ha]; simp; omega
        have hw := hide (stp_even y c)
        clear ha c
        go_wp2
        go_round
        case rel => exact ⟨k + 1, by omega, by go_num, by rw [hs.out, ← hw.out]; congr 1⟩
        case measure => simp [intOf]; omega
    · obtain rfl : k = 8 := by omega
      go_wp2
      go_ret
      exact ⟨rfl, rfl⟩
theorem ix_nats {zs : List Int} {k : Nat} (h : k < zs.length) : (nats zs)[k]'(by unfold nats; simpa using h) = (ix zs k).toNat := by
  unfold nats; rw [List.getElem_map, ix_lt zs h]
theorem length_nats (zs : List Int) : (nats zs).length = zs.length := List.length_map _
theorem bytes_nats {zs : List Int} (h : Octets zs) : Bytes (nats zs) := by
  intro b hb
  unfold nats at hb
  obtain ⟨z, hz, rfl⟩ := List.mem_map.1 hb
  have := h z hz
  omega
theorem bytes_take {bs : List Nat} (h : Bytes bs) (k : Nat) : Bytes (bs.take k) := fun b hb => h b (List.mem_of_mem_take hb)
theorem crcS_step (c : Nat) {zs : List Int} {k : Nat} (h : k < zs.length) : crcS c ((nats zs).take (k + 1)) = stpN 8 (crcS c ((nats zs).take k) ^^^ (ix zs k).toNat) := by
  have h2 : k < (nats zs).length := by rw [length_nats]; exact h
  rw [List.take_succ_eq_append_getElem h2, crcS_append, ix_nats h]; rfl
theorem xor_byte (x : Nat) (z : Int) (hx : x < 4294967296) (h0 : 0 ≤ z) (h1 : z ≤ 255) : bits .xor .u32 (x : Int) z = ((x ^^^ z.toNat : Nat) : Int) := by
  obtain ⟨Z, rfl⟩ := Int.eq_ofNat_of_zero_le h0
  exact u32_xor_nat x Z hx (by omega)
theorem not_u32 (x : Nat) (h : x < 4294967296) : bits .xor .u32 IntKind.u32.max (x : Int) = ((x ^^^ 4294967295 : Nat) : Int) := by
  have e := u32_xor_nat 4294967295 x (by omega) h
  rw [Nat.xor_comm]; exact e
set_option maxHeartbeats 400000 in
theorem on_any (A : Option Addr) (n c : Nat) (zs : List Int) (x : Nat) (w : World) (hx : x < 4294967296) (hn : zs.length = n) (hz : Lies w A zs) (ho : Octets zs) (ln : n ≤ 4611686018427387904) :
    Calls Tryz.prog 108 #[.int .u32 x, .slice A n c] w fun e w' => e = .returned (.int .u32 (crc x (nats zs) : Nat)) ∧ w = w' := by
  subst hn
  have hb := hide (bytes_nats ho)
  have hx' := xor_lt hx (show 4294967295 < 4294967296 by omega)
  have hnot := hide (not_u32 x hx)
  go_enter Tryz.func108, Tryz.ntmps108
  go_wp2
  go_loop [0, 11] (fun c i => ∃ k : Nat, k ≤ zs.length ∧ i = .int .i64 k ∧ c = .int .u32 (crcS (x ^^^ 4294967295) ((nats zs).take k) : Nat)) (fun _ i => zs.length - (intOf i).toNat)
  case atStart => exact ⟨0, by omega, rfl, by rw [hnot.out]; rfl⟩
  case round =>
    obtain ⟨k, hk, rfl, rfl⟩ := hrel
    have hl := crcS_lt hx' (bytes_take hb.out k)
    by_cases hlt : k < zs.length
    · obtain ⟨b1, o1, rfl, _, hc1⟩ := hz.at_ (k := k) hlt
      have o := ho.ix k
      have hs := hide (crcS_step (x ^^^ 4294967295) hlt)
      have HZ := hide hz; have HO := hide ho; clear hz ho
      have hxb := hide (xor_byte _ (ix zs k) hl o.1 o.2)
      have hl2 := xor_lt hl (show (ix zs k).toNat < 4294967296 by omega)
      obtain ⟨o1, o2⟩ := o
      generalize crcS (x ^^^ 4294967295) ((nats zs).take k) = y at *
      go_wp2_with (go_at_call 132; rw [hxb.out]; (with_reducible refine (down_any _ _ hl2).mono ?_); rintro e w1 ⟨rfl, rfl⟩)
      go_round
      case rel => exact ⟨k + 1, by omega, by go_num, by rw [hs.out]⟩
      case measure => simp [intOf]; omega
    · obtain rfl : k = zs.length := by omega
      have hf := hide (not_u32 _ hl)
      go_wp2
      go_ret
      exact ⟨ret_int (by rw [hf.out]; unfold crc; rw [List.take_of_length_le (by rw [length_nats]; omega)]), rfl⟩
theorem on_zero (A : Option Addr) (n c : Nat) (zs : List Int) (w : World) (hn : zs.length = n) (hz : Lies w A zs) (ho : Octets zs) (ln : n ≤ 4611686018427387904) :
    Calls Tryz.prog 108 #[.int .u32 0, .slice A n c] w fun e w' => e = .returned (.int .u32 (crc 0 (nats zs) : Nat)) ∧ w = w' := on_any A n c zs 0 w (by omega) hn hz ho ln
set_option maxHeartbeats 400000 in
theorem of_any (A : Option Addr) (n c : Nat) (zs : List Int) (w : World) (hn : zs.length = n) (hz : Lies w A zs) (ho : Octets zs) (ln : n ≤ 4611686018427387904) :
    Calls Tryz.prog 86 #[.slice A n c] w fun e w' => e = .returned (.int .u32 (crc 0 (nats zs) : Nat)) ∧ w = w' := by
  go_enter Tryz.func86, Tryz.ntmps86
  go_wp2_with (go_at_call 108; (with_reducible refine (on_zero A n c zs w hn hz ho ln).mono ?_); rintro e w1 ⟨rfl, rfl⟩)
  go_ret
  exact ⟨rfl, rfl⟩
set_option maxHeartbeats 400000 in
theorem ron_any (A : Option Addr) (n c : Nat) (zs : List Int) (x : Nat) (w : World) (hx : x < 4294967296) (hn : zs.length = n) (hz : Lies w A zs) (ho : Octets zs) (ln : n ≤ 4611686018427387904) :
    Calls Tryz.prog 61 #[.int .u32 x, .slice A n c] w fun e w' => e = .returned (.int .u32 (crc x (nats zs) : Nat)) ∧ w = w' := by
  subst hn
  have hb := hide (bytes_nats ho)
  have hx' := xor_lt hx (show 4294967295 < 4294967296 by omega)
  have hnot := hide (not_u32 x hx)
  go_enter Tryz.func61, Tryz.ntmps61
  go_wp2
  go_loop [0, 5] (fun c i => ∃ k : Nat, k ≤ zs.length ∧ i = .int .i64 k ∧ c = .int .u32 (crcS (x ^^^ 4294967295) ((nats zs).take k) : Nat)) (fun _ i => zs.length - (intOf i).toNat)
  case atStart => exact ⟨0, by omega, rfl, by rw [hnot.out]; rfl⟩
  case round =>
    obtain ⟨k, hk, rfl, rfl⟩ := hrel
    have hl := crcS_lt hx' (bytes_take hb.out k)
    by_cases hlt : k < zs.length
    · obtain ⟨b1, o1, rfl, _, hc1⟩ := hz.at_ (k := k) hlt
      have o := ho.ix k
      have hs := hide (crcS_step (x ^^^ 4294967295) hlt)
      have HZ := hide hz; have HO := hide ho; clear hz ho
      have hxb := hide (xor_byte _ (ix zs k) hl o.1 o.2)
      have hl2 := xor_lt hl (show (ix zs k).toNat < 4294967296 by omega)
      obtain ⟨o1, o2⟩ := o
      generalize crcS (x ^^^ 4294967295) ((nats zs).take k) = y at *
      go_wp2
      go_loop [0, 6] (fun c i => ∃ j : Nat, j ≤ 8 ∧ i = .int .i64 j ∧ c = .int .u32 (stpN j (y ^^^ (ix zs k).toNat) : Nat)) (fun _ i => 8 - (intOf i).toNat)
      case atStart => exact ⟨0, by omega, rfl, by rw [hxb.out]; rfl⟩
      case round =>
        obtain ⟨j, hj, rfl, rfl⟩ := hrel
        by_cases hlt2 : j < 8
        · have hl3 := stpN_lt hl2 j
          have ha := u32_and_one _ hl3
          have hs2 := hide (stpN_succ j (y ^^^ (ix zs k).toNat))
          generalize stpN j (y ^^^ (ix zs k).toNat) = v at *
          by_cases c : v % 2 = 1
          · have hb : ((bits .and .u32 (v : Int) 1 : Int) == 1) = true := by rw [ha, c]; rfl
            have hw := hide (stp_walk v hl3 c)
            clear ha c
            go_wp2
            go_round
            case rel => exact ⟨j + 1, by omega, by go_num, by rw [hs2.out, ← hw.out]; congr 1⟩
            case measure => simp [intOf]; omega
          · have hb : ((bits .and .u32 (v : Int) 1 : Int) == 1) = false := by rw [ha]; simp; omega
            have hw := hide (stp_even v c)
            clear ha c
            go_wp2
            go_round
            case rel => exact ⟨j + 1, by omega, by go_num, by rw [hs2.out, ← hw.out]; congr 1⟩
            case measure => simp [intOf]; omega
        · obtain rfl : j = 8 := by omega
          go_wp2
          go_round
          case rel => exact ⟨k + 1, by omega, by go_num, by rw [hs.out]⟩
          case measure => simp [intOf]; omega
    · obtain rfl : k = zs.length := by omega
      have hf := hide (not_u32 _ hl)
      go_wp2
      go_ret
      exact ⟨ret_int (by rw [hf.out]; unfold crc; rw [List.take_of_length_le (by rw [length_nats]; omega)]), rfl⟩
theorem ron_zero (A : Option Addr) (n c : Nat) (zs : List Int) (w : World) (hn : zs.length = n) (hz : Lies w A zs) (ho : Octets zs) (ln : n ≤ 4611686018427387904) :
    Calls Tryz.prog 61 #[.int .u32 0, .slice A n c] w fun e w' => e = .returned (.int .u32 (crc 0 (nats zs) : Nat)) ∧ w = w' := ron_any A n c zs 0 w (by omega) hn hz ho ln
end Go.Proofs.YtkmcnhjfnjikaaaGreatDoor
/- Numbers out of bytes and bytes out of numbers, the lowest first: plain arithmetic. No condition. -/
namespace Go.Proofs.YtkmcnhjfnjikaaaGreatDoor
open Go.RowKit
theorem ret_two {k l : IntKind} {a b c d : Int} (h : a = b) (g : c = d) : Ending.returned (.tuple #[.int k a, .int l c]) = .returned (.tuple #[.int k b, .int l d]) := by rw [h, g]

/-- The number of the k bytes from place i on, the lowest first. -/
def le (zs : List Int) (i : Nat) : Nat → Int
  | 0 => 0
  | k + 1 => le zs i k + ix zs (i + k) * 256 ^ k
theorem le_zero (zs : List Int) (i : Nat) : le zs i 0 = 0 := rfl
theorem le_succ (zs : List Int) (i k : Nat) : le zs i (k + 1) = le zs i k + ix zs (i + k) * 256 ^ k := rfl
theorem pow256 (k : Nat) : (256 : Int) ^ k = 2 ^ (8 * k) := by
  rw [Int.pow_mul]; rfl
theorem pow256_pos (k : Nat) : (0 : Int) < 256 ^ k := Int.pow_pos (by omega)
theorem le_bounds {zs : List Int} (ho : Octets zs) (i : Nat) : ∀ k, 0 ≤ le zs i k ∧ le zs i k < 256 ^ k
  | 0 => ⟨by rw [le_zero]; omega, by rw [le_zero]; exact pow256_pos 0⟩
  | k + 1 => by
    have h := le_bounds ho i k
    have o := ho.ix (i + k)
    have hp := pow256_pos k
    rw [le_succ, Int.pow_succ]
    have h1 : ix zs (i + k) * 256 ^ k ≤ 255 * 256 ^ k := Int.mul_le_mul_of_nonneg_right o.2 (by omega)
    have h2 : 0 ≤ ix zs (i + k) * 256 ^ k := Int.mul_nonneg o.1 (by omega)
    omega
theorem le_low (zs : List Int) (i : Nat) : ∀ k, le zs i (k + 1) = ix zs i + 256 * le zs (i + 1) k
  | 0 => by rw [le_succ, le_zero, le_zero]; simp
  | k + 1 => by
    rw [le_succ, le_low zs i k, le_succ, Int.pow_succ]
    have e : i + (k + 1) = i + 1 + k := by omega
    rw [e, Int.mul_add, Int.mul_comm (256 ^ k) 256, ← Int.mul_assoc (ix zs (i + 1 + k)), Int.mul_comm (ix zs (i + 1 + k)) 256, Int.mul_assoc]
    omega
theorem pow256_le {k : Nat} (h : k ≤ 8) : (256 : Int) ^ k ≤ 18446744073709551616 := by
  rcases (show k = 0 ∨ k = 1 ∨ k = 2 ∨ k = 3 ∨ k = 4 ∨ k = 5 ∨ k = 6 ∨ k = 7 ∨ k = 8 by omega) with h | h | h | h | h | h | h | h | h <;> subst h <;> decide
theorem pow_cast (k : Nat) : ((2 ^ k : Nat) : Int) = 2 ^ k := by push_cast; rfl
theorem or_high (a b : Int) (k : Nat) (hk : k < 8) (a0 : 0 ≤ a) (a1 : a < 256 ^ k) (b0 : 0 ≤ b) (b1 : b ≤ 255) :
    bits .or .u64 a (IntKind.u64.wrap (b * 2 ^ (8 * k))) = a + b * 256 ^ k := by
  have hp := pow256_le (k := k + 1) (by omega)
  have hq := pow256_pos k
  rw [Int.pow_succ] at hp
  have h1 : b * 256 ^ k ≤ 255 * 256 ^ k := Int.mul_le_mul_of_nonneg_right b1 (by omega)
  have h2 : 0 ≤ b * 256 ^ k := Int.mul_nonneg b0 (by omega)
  rw [← pow256, IntWalk.u64_in _ ⟨h2, by omega⟩]
  obtain ⟨X, rfl⟩ := Int.eq_ofNat_of_zero_le a0
  obtain ⟨Y, rfl⟩ := Int.eq_ofNat_of_zero_le b0
  have e : (Y : Int) * 256 ^ k = ((2 ^ (8 * k) * Y : Nat) : Int) := by
    rw [pow256, Int.natCast_mul, pow_cast, Int.mul_comm]
  have hX : X < 2 ^ (8 * k) := by
    rw [pow256, ← pow_cast] at a1; omega
  rw [e] at h1 h2 ⊢
  rw [u64_or_nat X _ (by omega) (by omega), Nat.or_comm, ← Nat.two_pow_add_eq_or_of_lt hX]
  omega
theorem or_low (u b : Int) (u0 : 0 ≤ u) (u1 : u < 72057594037927936) (b0 : 0 ≤ b) (b1 : b ≤ 255) :
    bits .or .u64 (IntKind.u64.wrap (u * 256)) b = b + 256 * u := by
  rw [IntWalk.u64_in _ ⟨by omega, by omega⟩]
  obtain ⟨X, rfl⟩ := Int.eq_ofNat_of_zero_le u0
  obtain ⟨Y, rfl⟩ := Int.eq_ofNat_of_zero_le b0
  have e : (X : Int) * 256 = ((2 ^ 8 * X : Nat) : Int) := by omega
  rw [e, u64_or_nat _ _ (by omega) (by omega), ← Nat.two_pow_add_eq_or_of_lt (show Y < 2 ^ 8 by omega)]
  omega

/-- What Get answers: the number, the error. -/
def GetBad (zs : List Int) (i n : Int) : Prop := n < 1 ∨ 8 < n ∨ i < 0 ∨ (zs.length : Int) < i
instance (zs : List Int) (i n : Int) : Decidable (GetBad zs i n) := by unfold GetBad; infer_instance
def getV (zs : List Int) (i n : Int) : Int := if GetBad zs i n then 0 else if (zs.length : Int) - i < n then 0 else le zs i.toNat n.toNat
def getE (zs : List Int) (i n : Int) : Int := if GetBad zs i n then 1 else if (zs.length : Int) - i < n then 3 else 0
/-- The lowest k bytes of u, the lowest first. -/
def putL (u : Int) : Nat → List Int
  | 0 => []
  | k + 1 => putL u k ++ [u / 256 ^ k % 256]
theorem putL_succ (u : Int) (k : Nat) : putL u (k + 1) = putL u k ++ [u / 256 ^ k % 256] := rfl
theorem length_putL (u : Int) : ∀ k, (putL u k).length = k
  | 0 => rfl
  | k + 1 => by rw [putL_succ, List.length_append, length_putL u k]; rfl
theorem octets_putL (u : Int) : ∀ k, Octets (putL u k)
  | 0 => fun z hz => by cases hz
  | k + 1 => fun z hz => by
    rw [putL_succ, List.mem_append] at hz
    rcases hz with hz | hz
    · exact octets_putL u k z hz
    · obtain rfl := List.mem_singleton.1 hz
      omega
theorem Octets.append {zs ys : List Int} (h : Octets zs) (g : Octets ys) : Octets (zs ++ ys) := fun z hz => by
  rcases List.mem_append.1 hz with hz | hz
  · exact h z hz
  · exact g z hz
theorem putL_add (u : Int) (a : Nat) : ∀ b, putL u (a + b) = putL u a ++ putL (u / 256 ^ a) b
  | 0 => by simp [putL]
  | b + 1 => by
    have e : a + (b + 1) = (a + b) + 1 := by omega
    rw [e, putL_succ, putL_add u a b, putL_succ, List.append_assoc]
    have h : u / 256 ^ (a + b) = u / 256 ^ a / 256 ^ b := by
      rw [Int.pow_add, Int.ediv_ediv_of_nonneg (Int.le_of_lt (pow256_pos a))]
    rw [h]
theorem ix_putL (u : Int) (n : Nat) {k : Nat} (h : k < n) : ix (putL u n) k = u / 256 ^ k % 256 := by
  obtain ⟨j, rfl⟩ : ∃ j, n = k + (j + 1) := ⟨n - k - 1, by omega⟩
  have hl := length_putL u k
  rw [putL_add, ix_lt _ (by rw [List.length_append, length_putL, length_putL]; omega), List.getElem_append_right (by omega)]
  have h0 := putL_add (u / 256 ^ k) 1 j
  have e : j + 1 = 1 + j := by omega
  have h1 : putL (u / 256 ^ k) 1 = [u / 256 ^ k % 256] := by simp [putL]
  rw [h1] at h0
  simp only [hl, Nat.sub_self, e, h0]
  rfl
/-- What is read out of what was written. -/
theorem le_putL (u : Int) (n i : Nat) : ∀ k, i + k ≤ n → le (putL u n) i k = u / 256 ^ i % 256 ^ k
  | 0, _ => by rw [le_zero, Int.pow_zero, Int.emod_one]
  | k + 1, h => by
    rw [le_succ, le_putL u n i k (by omega), ix_putL u n (by omega), Int.pow_add, ← Int.ediv_ediv_of_nonneg (Int.le_of_lt (pow256_pos i))]
    generalize u / 256 ^ i = v
    have hp := pow256_pos k
    have h1 : v % 256 ^ (k + 1) = v % 256 ^ k + 256 ^ k * (v / 256 ^ k % 256) := by
      rw [Int.pow_succ]
      generalize (256 : Int) ^ k = p at *
      have e1 := Int.mul_ediv_add_emod v p
      have e2 := Int.mul_ediv_add_emod (v / p) 256
      have t0 := Int.emod_nonneg (v / p) (show (256 : Int) ≠ 0 by omega)
      have t1 := Int.emod_lt_of_pos (v / p) (show (0 : Int) < 256 by omega)
      have r0 := Int.emod_nonneg v (show p ≠ 0 by omega)
      have r1 := Int.emod_lt_of_pos v hp
      have h2 : p * (v / p % 256) ≤ p * 255 := Int.mul_le_mul_of_nonneg_left (by omega) (by omega)
      have h3 : 0 ≤ p * (v / p % 256) := Int.mul_nonneg (by omega) t0
      have e3 : v = (v % p + p * (v / p % 256)) + p * 256 * (v / p / 256) := by
        have h4 : p * (v / p) = p * (256 * (v / p / 256)) + p * (v / p % 256) := by rw [← Int.mul_add, e2]
        rw [Int.mul_assoc]; omega
      have e4 : v % (p * 256) = ((v % p + p * (v / p % 256)) + p * 256 * (v / p / 256)) % (p * 256) := by rw [← e3]
      rw [e4, Int.add_mul_emod_self_left, Int.emod_eq_of_lt (by omega) (by omega)]
    rw [h1, Int.mul_comm (256 ^ k)]
/-- How many bytes Put writes. -/
def putM (m : Int) : Nat := (min (max m 0) 8).toNat
theorem byte_of (u : Int) (k : Nat) : IntKind.u8.wrap (u / 2 ^ (8 * k)) = u / 256 ^ k % 256 := by
  rw [pow256, IntKind.wrap_u8']
end Go.Proofs.YtkmcnhjfnjikaaaGreatDoor
/- What Get comes to, package word's and the document's own. Conditions: the slice lies in memory and holds bytes, its length has room. -/
namespace Go.Proofs.YtkmcnhjfnjikaaaGreatDoor
open Go.RowKit
set_option maxHeartbeats 1000000 in
theorem get_any (A : Option Addr) (n c : Nat) (zs : List Int) (i m : Int) (w : World) (hn : zs.length = n) (hz : Lies w A zs) (ho : Octets zs) (ln : n ≤ 4611686018427387904) :
    Calls Tryz.prog 151 #[.slice A n c, .int .i64 i, .int .i64 m] w fun e w' => e = .returned (.tuple #[.int .u64 (getV zs i m), .int .i64 (getE zs i m)]) ∧ w = w' := by
  subst hn
  by_cases hbad : GetBad zs i m
  · have e1 : getV zs i m = 0 := by unfold getV; rw [if_pos hbad]
    have e2 : getE zs i m = 1 := by unfold getE; rw [if_pos hbad]
    rw [e1, e2]
    clear e1 e2
    unfold GetBad at hbad
    by_cases b1 : m < 1
    · go_enter Tryz.func151, Tryz.ntmps151
      go_wp2
      go_ret2
      exact ⟨rfl, rfl⟩
    by_cases b2 : 8 < m
    · go_enter Tryz.func151, Tryz.ntmps151
      go_wp2
      go_ret2
      exact ⟨rfl, rfl⟩
    by_cases b3 : i < 0
    · go_enter Tryz.func151, Tryz.ntmps151
      go_wp2
      go_ret2
      exact ⟨rfl, rfl⟩
    · have b4 : (zs.length : Int) < i := by omega
      clear hbad
      go_enter Tryz.func151, Tryz.ntmps151
      go_wp2
      go_ret2
      exact ⟨rfl, rfl⟩
  · have hg : 1 ≤ m ∧ m ≤ 8 ∧ 0 ≤ i ∧ i ≤ (zs.length : Int) := by unfold GetBad at hbad; omega
    obtain ⟨m1, m8, i0, i1⟩ := hg
    by_cases hs : (zs.length : Int) - i < m
    · have e1 : getV zs i m = 0 := by unfold getV; rw [if_neg hbad, if_pos hs]
      have e2 : getE zs i m = 3 := by unfold getE; rw [if_neg hbad, if_pos hs]
      rw [e1, e2]
      clear e1 e2 hbad
      go_enter Tryz.func151, Tryz.ntmps151
      go_wp2
      go_ret2
      exact ⟨rfl, rfl⟩
    · have e1 : getV zs i m = le zs i.toNat m.toNat := by unfold getV; rw [if_neg hbad, if_neg hs]
      have e2 : getE zs i m = 0 := by unfold getE; rw [if_neg hbad, if_neg hs]
      rw [e1, e2]
      clear e1 e2 hbad
      obtain ⟨I, rfl⟩ := Int.eq_ofNat_of_zero_le i0
      obtain ⟨M, rfl⟩ := Int.eq_ofNat_of_zero_le (show 0 ≤ m by omega)
      rw [Int.toNat_natCast, Int.toNat_natCast]
      go_enter Tryz.func151, Tryz.ntmps151
      go_wp2
      go_loop [8, 33] (fun u j => ∃ k : Nat, k ≤ M ∧ j = .int .i64 k ∧ u = .int .u64 (le zs I k)) (fun _ j => M - (intOf j).toNat)
      case atStart => exact ⟨0, by omega, rfl, rfl⟩
      case round =>
        obtain ⟨k, hk, rfl, rfl⟩ := hrel
        have hb := le_bounds ho I k
        have o := ho.ix (I + k)
        by_cases hlt : k < M
        · obtain ⟨b1, o1, rfl, _, hc1⟩ := hz.at_ (k := I + k) (by omega)
          have HZ := hide hz; have HO := hide ho; clear hz ho
          have HB := hide hb; clear hb
          obtain ⟨o1, o2⟩ := o
          have hstep := hide (or_high (le zs I k) (ix zs (I + k)) k (by omega) HB.out.1 HB.out.2 o1 o2)
          have hsum : IntKind.i64.wrap ((I : Int) + (k : Int)) = (I : Int) + (k : Int) := IntWalk.i64_in _ ⟨by omega, by omega⟩
          go_wp2
          go_round
          case rel => exact ⟨k + 1, by omega, by go_num, by rw [le_succ, ← hstep.out, Nat.mul_comm 8 k]⟩
          case measure => simp [intOf]; omega
        · obtain rfl : k = M := by omega
          go_wp2
          go_ret2
          exact ⟨rfl, rfl⟩
set_option maxHeartbeats 1000000 in
theorem rget_any (A : Option Addr) (n c : Nat) (zs : List Int) (i m : Int) (w : World) (hn : zs.length = n) (hz : Lies w A zs) (ho : Octets zs) (ln : n ≤ 4611686018427387904) :
    Calls Tryz.prog 133 #[.slice A n c, .int .i64 i, .int .i64 m] w fun e w' => e = .returned (.tuple #[.int .u64 (getV zs i m), .int .i64 (getE zs i m)]) ∧ w = w' := by
  subst hn
  by_cases hbad : GetBad zs i m
  · have e1 : getV zs i m = 0 := by unfold getV; rw [if_pos hbad]
    have e2 : getE zs i m = 1 := by unfold getE; rw [if_pos hbad]
    rw [e1, e2]
    clear e1 e2
    unfold GetBad at hbad
    by_cases b1 : m < 1
    · go_enter Tryz.func133, Tryz.ntmps133
      go_wp2
      go_ret2
      exact ⟨rfl, rfl⟩
    by_cases b2 : 8 < m
    · go_enter Tryz.func133, Tryz.ntmps133
      go_wp2
      go_ret2
      exact ⟨rfl, rfl⟩
    by_cases b3 : i < 0
    · go_enter Tryz.func133, Tryz.ntmps133
      go_wp2
      go_ret2
      exact ⟨rfl, rfl⟩
    · have b4 : (zs.length : Int) < i := by omega
      clear hbad
      go_enter Tryz.func133, Tryz.ntmps133
      go_wp2
      go_ret2
      exact ⟨rfl, rfl⟩
  · have hg : 1 ≤ m ∧ m ≤ 8 ∧ 0 ≤ i ∧ i ≤ (zs.length : Int) := by unfold GetBad at hbad; omega
    obtain ⟨m1, m8, i0, i1⟩ := hg
    by_cases hs : (zs.length : Int) - i < m
    · have e1 : getV zs i m = 0 := by unfold getV; rw [if_neg hbad, if_pos hs]
      have e2 : getE zs i m = 3 := by unfold getE; rw [if_neg hbad, if_pos hs]
      rw [e1, e2]
      clear e1 e2 hbad
      go_enter Tryz.func133, Tryz.ntmps133
      go_wp2
      go_ret2
      exact ⟨rfl, rfl⟩
    · have e1 : getV zs i m = le zs i.toNat m.toNat := by unfold getV; rw [if_neg hbad, if_neg hs]
      have e2 : getE zs i m = 0 := by unfold getE; rw [if_neg hbad, if_neg hs]
      rw [e1, e2]
      clear e1 e2 hbad
      obtain ⟨I, rfl⟩ := Int.eq_ofNat_of_zero_le i0
      obtain ⟨M, rfl⟩ := Int.eq_ofNat_of_zero_le (show 0 ≤ m by omega)
      rw [Int.toNat_natCast, Int.toNat_natCast]
      go_enter Tryz.func133, Tryz.ntmps133
      go_wp2
      go_loop [8, 9] (fun u j => ∃ k : Nat, k ≤ M ∧ j = .int .i64 ((k : Int) - 1) ∧ u = .int .u64 (le zs (I + k) (M - k))) (fun _ j => (intOf j + 1).toNat)
      case atStart => exact ⟨M, by omega, rfl, by rw [Nat.sub_self]; rfl⟩
      case round =>
        obtain ⟨k, hk, rfl, rfl⟩ := hrel
        have hb := le_bounds ho (I + k) (M - k)
        by_cases hlt : 0 < k
        · obtain ⟨k, rfl⟩ : ∃ j, k = j + 1 := ⟨k - 1, by omega⟩
          have o := ho.ix (I + k)
          obtain ⟨b1, o1, rfl, _, hc1⟩ := hz.at_ (k := I + k) (by omega)
          have HZ := hide hz; have HO := hide ho; clear hz ho
          have HB := hide hb; clear hb
          obtain ⟨o1, o2⟩ := o
          have hlow := hide (le_low zs (I + k) (M - (k + 1)))
          have h7 : (256 : Int) ^ (M - (k + 1)) ≤ 72057594037927936 := by
            rcases (show M - (k + 1) = 0 ∨ M - (k + 1) = 1 ∨ M - (k + 1) = 2 ∨ M - (k + 1) = 3 ∨ M - (k + 1) = 4 ∨ M - (k + 1) = 5 ∨ M - (k + 1) = 6 ∨ M - (k + 1) = 7 by omega) with h | h | h | h | h | h | h | h <;> rw [h] <;> decide
          have hstep := hide (or_low (le zs (I + (k + 1)) (M - (k + 1))) (ix zs (I + k)) HB.out.1 (Int.lt_of_lt_of_le HB.out.2 h7) o1 o2)
          clear h7
          have hsum : IntKind.i64.wrap ((I : Int) + (k : Int)) = (I : Int) + (k : Int) := IntWalk.i64_in _ ⟨by omega, by omega⟩
          go_wp2
          go_round
          case rel => exact ⟨k, by omega, by go_num, by
            have e : M - k = M - (k + 1) + 1 := by omega
            rw [e, hlow.out]
            exact congrArg _ hstep.out⟩
          case measure => simp [intOf]
        · obtain rfl : k = 0 := by omega
          go_wp2
          go_ret2
          exact ⟨rfl, rfl⟩
end Go.Proofs.YtkmcnhjfnjikaaaGreatDoor
/- What Put comes to, package word's and the document's own. Conditions: the slice lies in memory and holds bytes, its length has room. -/
namespace Go.Proofs.YtkmcnhjfnjikaaaGreatDoor
open Go.RowKit
set_option maxRecDepth 100000 in
set_option maxHeartbeats 1000000 in
theorem put_any (A : Option Addr) (n c : Nat) (zs : List Int) (m u : Int) (w : World) (hn : zs.length = n) (hz : Lies w A zs) (hc : A = none → c = 0) (ln : n ≤ 199999999999990) :
    Calls Tryz.prog 85 #[.slice A n c, .int .i64 m, .int .u64 u] w fun e w' =>
      e = .returned (.slice (some ⟨w.heap.size, 0, none⟩) (n + putM m) (n + putM m)) ∧
      w'.ownsRow w.heap.size 5 1 (.slice (some ⟨w.heap.size, 0, none⟩) (n + putM m) (n + putM m)) (n + putM m) (cellsOf (zs ++ putL u (putM m))) ∧ Below w.heap.size w w' := by
  subst hn
  obtain ⟨i0, hi, hz0, hz1, hz2⟩ := info_parts Tryz.info5
  go_enter Tryz.func85, Tryz.ntmps85
  go_upto_region 1 with (fail)
  go_cut [1] (fun s1 wx => s1 = .int .i64 (putM m : Nat) ∧ wx = w)
  case first =>
    go_wp2_with fail
    all_goals (go_meet; exact ⟨by unfold putM; congr 1; omega, rfl⟩)
  case rest =>
    obtain ⟨rfl, rfl⟩ := hcut
    have hM : putM m ≤ 8 := by unfold putM; omega
    go_wp2_with (at_make; refine wpList_make_own _ rfl _ _ 31 rfl wc.heap.size 5 i0 (.int .u8 0) 1 Tryz.underlying31 hi hz0 hz1 _ _ _ (zs.length + putM m) rfl rfl (by omega) ?b2 ?b3 (Nat.le_refl _) ?_)
    case b2 => rw [hz2]; omega
    case b3 => unfold maxLen; omega
    intro w0 hown0 hgrow0
    have hb0 : Below wc.heap.size wc w0 := (Below.refl _ _).grown hgrow0 (Nat.le_refl _) (fun k h => by cases h)
    have hz0' := hide (hz.below hb0)
    go_wp2_with (at_builtin; refine wpList_append_fits_any _ rfl (.tmp 17) (.tmp 18) 31 rfl wc.heap.size 5 i0 1 Tryz.underlying31 hi hz1 wc.heap.size 0 (zs.length + putM m) [] rfl hown0 A zs.length c (cellsOf zs) rfl ?d1 ?d2 ?d3 cellsOf_one (by omega) ?_)
    case d1 => rw [length_cellsOf]; omega
    case d2 => intro h; exact ⟨Lies.nil_ hz0'.out h, hc h⟩
    case d3 =>
      rintro ad rfl j u hj
      obtain ⟨hk, _⟩ := cellsOf_some hj
      obtain ⟨b, off, e, _⟩ := hz0'.out (by omega)
      injection e with e
      subst e
      exact Lies.cells hz0'.out j u hj
    intro w1 hown1 hgrow1
    have hb1 : Below wc.heap.size wc w1 := hb0.grown hgrow1 hb0.size (fun k h => by cases h; exact Nat.le_refl _)
    clear hz0' hown0 hgrow0 hgrow1 hb0 hz
    go_wp2
    go_loopw [7, 21] (fun s i wr => ∃ k : Nat, k ≤ putM m ∧ i = .int .i64 k ∧ s = .slice (some ⟨wc.heap.size, 0, none⟩) (zs.length + k) (zs.length + putM m) ∧
        wr.ownsRow wc.heap.size 5 1 (.slice (some ⟨wc.heap.size, 0, none⟩) (zs.length + k) (zs.length + putM m)) (zs.length + k) (cellsOf (zs ++ putL u k)) ∧ Below wc.heap.size wc wr) (fun _ i _ => putM m - (intOf i).toNat)
    case atStart => exact ⟨0, by omega, rfl, rfl, by simpa [putL] using hown1, hb1⟩
    case round =>
      clear hown1 hb1
      obtain ⟨k, hk, rfl, rfl, hown, hb⟩ := hrel
      by_cases hlt : k < putM m
      · go_wp2_with (at_builtin; refine wpList_append_fits _ rfl (.tmp 24) (.tmp 30) 31 rfl wc.heap.size 5 i0 1 Tryz.underlying31 hi hz1 wc.heap.size (zs.length + k) (zs.length + putM m) _ rfl (hown.alloc _) ⟨wr.heap.size, 0, none⟩ 1 1 [.int .u8 (u / 256 ^ k % 256)] rfl rfl (by rw [← byte_of, Nat.mul_comm 8 k]; exact cell_one_new _ _ _) (by intro v hv; simp at hv; subst hv; rfl) (by omega) ?_)
        intro w2 hown2 hgrow2
        have hb2 : Below wc.heap.size wc w2 := (hb.alloc hb.size _).grown hgrow2 (by simp; have := hb.size; omega) (fun k hk => by cases hk; exact Nat.le_refl _)
        clear hgrow2 hb hown
        go_wp2
        go_roundw
        case rel => exact ⟨k + 1, by omega, by go_num, rfl, by rw [putL_succ, ← List.append_assoc, cellsOf_append]; exact hown2, hb2⟩
        case measure => simp [intOf]; omega
      · obtain rfl : k = putM m := by omega
        go_wp2
        go_ret
        exact ⟨rfl, hown, hb⟩
set_option maxRecDepth 100000 in
set_option maxHeartbeats 1000000 in
theorem rput_any (A : Option Addr) (n c : Nat) (zs : List Int) (m u : Int) (w : World) (hn : zs.length = n) (hz : Lies w A zs) (hc : A = none → c = 0) (ln : n ≤ 199999999999990) :
    Calls Tryz.prog 60 #[.slice A n c, .int .i64 m, .int .u64 u] w fun e w' =>
      ∃ v, e = .returned v ∧ w'.ownsRow w.heap.size 5 1 v (n + putM m) (cellsOf (zs ++ putL u (putM m))) ∧ Below w.heap.size w w' := by
  subst hn
  have hM : putM m ≤ 8 := by unfold putM; omega
  obtain ⟨i0, hi, hz0, hz1, hz2⟩ := info_parts Tryz.info5
  have hc' := hide hc
  clear hc
  have hown := World.ownsRow_lit (base := w.heap.size) (e := 5) (size := 1) w #[] 0 (Nat.le_refl _) (by unfold maxLen; omega) rfl
  have hz' := hide (hz.alloc (.cells #[] 5))
  go_enter Tryz.func60, Tryz.ntmps60
  go_wp2_with (at_builtin; refine wpList_append_lies rfl (.tmp 9) (.tmp 10) 31 rfl w.heap.size 5 i0 _ Tryz.underlying31 hi hz0 hz1 hz2 rfl _ 0 [] rfl hown A zs.length c zs rfl rfl hc'.out hz'.out (by omega) (by simp) ?_)
  intro v1 w1 hown1 hb1
  have hb1' : Below w.heap.size w w1 := ((Below.refl _ _).alloc (Nat.le_refl _) _).trans hb1
  clear hb1 hown hz' hz hc'
  go_wp2
  go_loopw [7, 8] (fun s i wr => ∃ k : Nat, k ≤ putM m ∧ i = .int .i64 k ∧ wr.ownsRow w.heap.size 5 1 s (zs.length + k) (cellsOf (zs ++ putL u k)) ∧ Below w.heap.size w wr) (fun _ i _ => putM m - (intOf i).toNat)
  case atStart => exact ⟨0, by omega, rfl, by simpa [putL] using hown1, hb1'⟩
  case round =>
    clear hown1 hb1'
    obtain ⟨k, hk, rfl, hown, hb⟩ := hrel
    by_cases hlt : k < putM m
    · have hk1 : (k : Int) < m := by unfold putM at hlt; omega
      have hk2 : (k : Int) < 8 := by omega
      go_wp2_with (at_builtin; refine wpList_append_lies rfl (.tmp 21) (.tmp 27) 31 rfl w.heap.size 5 i0 _ Tryz.underlying31 hi hz0 hz1 hz2 rfl _ (zs.length + k) (zs ++ putL u k) rfl (hown.alloc _) (some ⟨wr.heap.size, 0, none⟩) 1 1 [u / 256 ^ k % 256] rfl rfl (by intro h; cases h) (by rw [← byte_of]; exact lies_one _ _ _) (by omega) (by have := hb.size; simp; omega) ?_)
      intro v2 w2 hown2 hb2
      have hb2' : Below w.heap.size w w2 := (hb.alloc hb.size _).trans hb2
      clear hb2 hb hown
      go_wp2
      go_roundw
      case rel => exact ⟨k + 1, by omega, by go_num, by rw [putL_succ]; exact hown2, hb2'⟩
      case measure => simp [intOf]; omega
    · obtain rfl : k = putM m := by omega
      by_cases hk1 : (putM m : Int) < m
      · have hk2 : ¬ (putM m : Int) < 8 := by unfold putM at *; omega
        go_wp2
        go_ret
        exact ⟨_, rfl, hown, hb⟩
      · go_wp2
        go_ret
        exact ⟨_, rfl, hown, hb⟩
end Go.Proofs.YtkmcnhjfnjikaaaGreatDoor
/- bytes.Clone, and slices of bytes of a call's own. Condition: the length has room. -/
namespace Go.Proofs.YtkmcnhjfnjikaaaGreatDoor
open Go.RowKit
/-- A slice of bytes of the call's own, or nil. -/
theorem own_len {w : World} {base n : Nat} {A : Option Addr} {m c : Nat} {xs : List Value} (h : w.ownsRow base 5 1 (.slice A m c) n xs) : m = n ∧ n ≤ c := by
  rcases h.2 with ⟨hv, hx⟩ | ⟨g, cap, cur, hv, _, _, hnc, _⟩
  · injection hv with _ h2 h3
    subst h2 h3
    have := h.1
    rw [hx] at this
    simp at this
    omega
  · injection hv with _ h2 h3
    subst h2 h3
    exact ⟨rfl, hnc⟩
/-- A slice of these bytes, in new memory or nowhere. -/
def Cloned (w : World) (n : Nat) (zs : List Int) (e : Ending) (w' : World) : Prop := ∃ A' c', e = .returned (.slice A' n c') ∧ w'.ownsRow w.heap.size 5 1 (.slice A' n c') n (cellsOf zs) ∧ Below w.heap.size w w'
set_option maxHeartbeats 1000000 in
theorem clone_any (A : Option Addr) (n c : Nat) (zs : List Int) (w : World) (hn : zs.length = n) (hz : Lies w A zs) (hc : A = none → c = 0) (ln : n ≤ 199999999999990) :
    Calls Tryz.prog 69 #[.slice A n c] w (Cloned w n zs) := by
  subst hn
  have hnil : ∀ (a : Option Addr) (k c : Nat) (w : World), (binOp .eql 31 (.slice a k c) (.slice none 0 0)).run Tryz.prog w = .ok (.bool a.isNone) w := fun a k c w => Lib.run_eql_slice_nil w 31 5 a k c 0 0 Tryz.underlying31
  rcases A with _ | ad
  · have h0 := hz.nil_ rfl
    have hz0 : zs = [] := List.eq_nil_of_length_eq_zero h0
    subst hz0
    obtain rfl := hc rfl
    go_enter Tryz.func69, Tryz.ntmps69
    go_wp2
    go_ret
    exact ⟨none, 0, rfl, World.ownsRow_nil _ _ _ _, Below.refl _ _⟩
  · obtain ⟨i0, hi, hz0, hz1, hz2⟩ := info_parts Tryz.info5
    have hown0 := World.ownsRow_lit (base := w.heap.size) (e := 5) (size := 1) w #[] 0 (Nat.le_refl _) (by unfold maxLen; omega) rfl
    have hz' := hide (hz.alloc (.cells #[] 5))
    clear hc
    go_enter Tryz.func69, Tryz.ntmps69
    go_wp2_with (first
      | (at_builtin; refine wpList_append_lies rfl (.tmp 5) (.tmp 6) 31 rfl w.heap.size 5 i0 _ Tryz.underlying31 hi hz0 hz1 hz2 rfl _ 0 [] rfl hown0 (some ad) zs.length c zs rfl rfl (by intro h; cases h) hz'.out (by omega) (by simp) ?_; intro v1 w1 hown1 hb1; simp only [Nat.zero_add, List.nil_append] at hown1; have hb1' : Below w.heap.size w w1 := ((Below.refl _ _).alloc (Nat.le_refl _) _).trans hb1; clear hb1 hown0 hz' hz))
    obtain ⟨A', c', rfl, _⟩ := own_shape hown1
    go_ret
    exact ⟨A', c', rfl, hown1, hb1'⟩
theorem own_mono {w : World} {b b' : Nat} {e : TypeId} {k n : Nat} {v : Value} {xs : List Value} (h : w.ownsRow b e k v n xs) (hb : b' ≤ b) : w.ownsRow b' e k v n xs := by
  refine ⟨h.1, ?_⟩
  rcases h.2 with ⟨hv, hx⟩ | ⟨g, cap, cur, hv, hg, hr⟩
  · exact .inl ⟨hv, hx⟩
  · exact .inr ⟨g, cap, cur, hv, Nat.le_trans hb hg, hr⟩
theorem Cloned.le {w w' : World} {n : Nat} {zs : List Int} {e : Ending} (h : Cloned w n zs e w') : zs.length = n := by
  obtain ⟨A, c, _, ho, _⟩ := h
  have := ho.1
  rw [length_cellsOf] at this; omega
end Go.Proofs.YtkmcnhjfnjikaaaGreatDoor
/- bytes.Clone, Read of the program's disk. Condition: the length has room. -/
namespace Go.Proofs.YtkmcnhjfnjikaaaGreatDoor
open Go.RowKit Go.Maps
theorem flen {d : DS} (h : DOk d) {f : Fl} (hf : f ∈ d.l) : f.dt.length ≤ 1048576 := by
  have h1 := total_delF f.nm d.l h.up
  rw [find_of_mem h.up hf] at h1
  have h2 := h.tot
  have h3 := h.q.2
  simp only [lenO] at h1
  omega
/-- What Read answers. -/
def ReadP (w : World) (o : Option Fl) (e : Ending) (w' : World) : Prop :=
  ∃ A c, e = .returned (.tuple #[.slice A (datO o).length c, .bool o.isSome]) ∧ w'.ownsRow w.heap.size 5 1 (.slice A (datO o).length c) (datO o).length (cellsOf (datO o)) ∧ Below w.heap.size w w'
set_option maxRecDepth 100000 in
theorem run_eql_ptr (w : World) (c : Option Addr) : (binOp .eql 101 (.pointer c) (.pointer none)).run Tryz.prog w = .ok (.bool c.isNone) w := by
  cases c <;> rfl
set_option maxHeartbeats 1000000 in
theorem read_any {S : Nat → Prop} (g : Nat) (nm : ByteArray) (d : DS) (w : World) (h : Dk S w g d) (hn : nm.size ≤ maxLen) :
    Calls Tryz.prog 35 #[.pointer (some ⟨g, 0, none⟩), .string nm] w (ReadP w (find nm d.l)) := by
  obtain ⟨b, lf, loc, h⟩ := h
  have c1 : w.cell? ⟨g, 1, none⟩ = some (.map (some b)) := h.row.cell 1
  have hl := h.map.look nm hn
  unfold ptrO at hl
  cases hf : find nm d.l with
  | none =>
    rw [hf] at hl
    simp only [Option.map_none] at hl
    clear h hf hn
    go_enter Tryz.func35, Tryz.ntmps35
    go_wp2
    go_ret2
    exact ⟨none, 0, rfl, World.ownsRow_nil _ _ _ _, Below.refl _ _⟩
  | some f =>
    rw [hf] at hl
    simp only [Option.map_some] at hl
    obtain ⟨hfm, rfl⟩ := find_mem hf
    have ho := h.files.one f hfm
    have p0 : w.cell? ⟨(loc f.nm).p, 0, none⟩ = some (.slice (loc f.nm).A f.dt.length (loc f.nm).c) := ho.head.cell 0
    have hlen := flen h.ok hfm
    have hcl := hide (clone_any (loc f.nm).A f.dt.length (loc f.nm).c f.dt w rfl ho.lies ho.nil (by omega))
    clear h hf hn ho hfm hlen
    generalize (loc f.nm).A = A at *
    generalize (loc f.nm).c = c at *
    generalize (loc f.nm).p = p at *
    go_enter Tryz.func35, Tryz.ntmps35
    go_wp2_with (go_at_call 69; refine hcl.out.mono ?_; rintro e w' ⟨A', c', rfl, hown, hb⟩)
    go_ret2
    exact ⟨A', c', rfl, hown, hb⟩
end Go.Proofs.YtkmcnhjfnjikaaaGreatDoor
/- Room, Names of the program's disk. Condition of Names: the files have room in a slice. -/
namespace Go.Proofs.YtkmcnhjfnjikaaaGreatDoor
open Go.RowKit Go.Maps Go.Sort Go.Shelf
set_option maxHeartbeats 1000000 in
theorem room_any {S : Nat → Prop} (g : Nat) (d : DS) (w : World) (h : Dk S w g d) :
    Calls Tryz.prog 34 #[.pointer (some ⟨g, 0, none⟩)] w fun e w' => e = .returned (.int .i64 (d.q - total d.l)) ∧ Below w.heap.size w w' := by
  have ht := h.ok.tot
  have hq := h.ok.q
  obtain ⟨S0, hS⟩ : ∃ S0 : World → Prop, (fun w' => Below w.heap.size w w') = S0 := ⟨_, rfl⟩
  have TT := hide (show ∀ k : Sp S0, Calls Tryz.prog 33 #[.pointer (some ⟨g, 0, none⟩)] k.w fun e w' => e = .returned (.int .i64 (total d.l)) ∧ Below k.w.heap.size k.w w' by subst hS; exact fun k => total_any g d k.w (h.below k.ok))
  have STEP := hide (show ∀ w w', S0 w → Below w.heap.size w w' → S0 w' by subst hS; exact fun _ _ h1 hb => kept_trans h1 hb)
  have OLD := hide (show ∀ k : Sp S0, Below w.heap.size w k.w by subst hS; exact fun k => k.ok)
  have c0 : ∀ k : Sp S0, k.w.cell? ⟨g, 0, none⟩ = some (.int .i64 d.q) := by
    subst hS
    intro k
    obtain ⟨b, lf, loc, h⟩ := h
    exact ((h.below k.ok).row).cell 0
  have hst : S0 w.drew := by subst hS; exact kept_drewN (kept_refl w) 1
  have ne : Nonempty (Sp S0) := ⟨⟨_, hst⟩⟩
  clear h hS
  go_enter Tryz.func34, Tryz.ntmps34
  go_wp2
  refine wp_region_sp S0 (by kernel_rfl) (by kernel_rfl) hst ?_
  clear hst
  have hsub : IntKind.i64.wrap (d.q - (total d.l : Int)) = d.q - (total d.l : Int) := IntWalk.i64_in _ (by omega)
  repeat (quiet_step ((go_at_call 33; with_reducible exact sp_call STEP.out _ (TT.out _))))
  refine wpQuiet_nil ?_
  intro kk
  have OK := hide (OLD.out kk)
  generalize kk.w = wk at OK ⊢
  clear c0 ne OLD STEP TT
  go_wp2
  go_ret
  exact ⟨rfl, OK.out⟩
theorem names_up {l : List Fl} (h : Up l) : (l.map fun x => x.nm.data.toList).Pairwise fun a b => a < b := by
  rw [List.pairwise_map]
  refine List.Pairwise.imp (fun {a b} hab => ?_) h
  unfold ltB at hab
  rw [bytesLess_eq, ByteArray.toList_eq, ByteArray.toList_eq, decide_eq_true_iff] at hab
  exact hab
theorem sorted_names {l : List Fl} (h : Up l) {ss : List (List UInt8)} (hp : ss.Perm (l.map fun x => x.nm.data.toList)) : ss.mergeSort (fun x y => decide (x ≤ y)) = l.map fun x => x.nm.data.toList := by
  rw [mergeSort_of_perm hp]
  refine List.mergeSort_of_pairwise ((names_up h).imp fun {a b} hab => ?_)
  rw [decide_eq_true_iff]
  exact List.le_of_lt hab
/-- From address A on there lie the texts xs, below the heap's end. -/
def Strs (w : World) (A : Option Addr) (xs : List ByteArray) : Prop :=
  0 < xs.length → ∃ b off, A = some ⟨b, off, none⟩ ∧ b < w.heap.size ∧ ∀ k x, xs[k]? = some x → w.cell? ⟨b, off + k, none⟩ = some (.string x)
theorem Strs.below {w w' : World} {A : Option Addr} {xs : List ByteArray} (h : Strs w A xs) (hb : Below w.heap.size w w') : Strs w' A xs := fun hn => by
  obtain ⟨b, off, e, hlt, hc⟩ := h hn
  exact ⟨b, off, e, Nat.lt_of_lt_of_le hlt hb.size, fun k x hk => (hb.cell (p := ⟨b, off + k, none⟩) hlt).trans (hc k x hk)⟩
theorem Strs.at_ {w : World} {A : Option Addr} {xs : List ByteArray} (h : Strs w A xs) {k : Nat} {x : ByteArray} (hk : xs[k]? = some x) : ∃ b off, A = some ⟨b, off, none⟩ ∧ b < w.heap.size ∧ w.cell? ⟨b, off + k, none⟩ = some (.string x) := by
  have hl : 0 < xs.length := by
    rcases Nat.eq_zero_or_pos xs.length with h0 | h0
    · rw [List.eq_nil_of_length_eq_zero h0] at hk; simp at hk
    · exact h0
  obtain ⟨b, off, e, hlt, hc⟩ := h hl
  exact ⟨b, off, e, hlt, hc k x hk⟩
theorem Strs.of_own {w : World} {base : Nat} {e : TypeId} {A : Option Addr} {n c : Nat} {xs : List ByteArray} (h : w.ownsRow base e 1 (.slice A n c) n (xs.map Value.string)) : Strs w A xs := by
  intro hn
  have hl : xs.length = n := by have := h.1; rw [List.length_map] at this; omega
  rcases h.2 with ⟨_, h0⟩ | ⟨g, cap, cur, hv, _, hh, _⟩
  · omega
  · injection hv with hA _ hc
    subst hA hc
    refine ⟨g, 0, rfl, ?_, fun k x hk => ?_⟩
    · rcases Nat.lt_or_ge g w.heap.size with h1 | h1
      · exact h1
      · rw [Array.getElem?_eq_none h1] at hh; cases hh
    · have hkn : k < n := by
        rcases Nat.lt_or_ge k n with h1 | h1
        · exact h1
        · rw [List.getElem?_eq_none (by omega)] at hk; cases hk
      have := h.cellAt k (by omega)
      rw [Nat.zero_add, this, List.getElem?_map, hk]; rfl
/-- The names of the files. -/
def nms (l : List Fl) : List ByteArray := l.map (·.nm)
/-- What Names answers. -/
def NamesP (w : World) (l : List Fl) (e : Ending) (w' : World) : Prop := ∃ A c, e = .returned (.slice A l.length c) ∧ l.length ≤ c ∧ Strs w' A (nms l) ∧ Below w.heap.size w w' ∧ (0 < l.length → ∀ b off, A = some ⟨b, off, none⟩ → w.heap.size ≤ b)
theorem keys_call (mb : Option Nat) (W : World) : Calls Tryz.prog 72 #[.map mb] W fun e w' => e = .returned (.func (.func 98) #[] #[.pointer (some ⟨W.heap.size, 0, none⟩)]) ∧ w' = W.alloc (.cells #[.map mb] 74) :=
  callsIn_wide.1 (AnyZ.keys_in Tryz.keys45 Fence.wide 5 trivial rfl mb W)
theorem sorts_call (m : Nat) : AnyZ.SortsIn Tryz.prog Tryz.sorted44_ren Fence.wide m :=
  ⟨fun blk off cap ss W hH hblk hsz => callsIn_wide.2 (AnyM.slices_Sort_string Tryz.sort52 blk off cap ss W hH hblk hsz),
   fun p cap W => callsIn_wide.2 (AnyM.slices_Sort_string_none Tryz.sort52 p cap W)⟩
theorem length_nms (l : List Fl) : (nms l).length = l.length := List.length_map _
set_option maxHeartbeats 1000000 in
theorem sorted_call (b nn : Nat) (D0 : DataW Unit) (w : World) (hown : w.ownsMap Tryz.prog 9 ptrElem b nn D0) (hmax : Maps.size D0 ≤ 1000000) :
    Calls Tryz.prog 71 #[.func (.func 98) #[] #[.pointer (some ⟨w.heap.size, 0, none⟩)]] (w.alloc (.cells #[.map (some b)] 74)) fun e w' => ∃ (v : Value) (ss : List (List UInt8)), e = .returned v ∧ ss.Perm (strKeys D0) ∧
      w'.ownsRow (w.alloc (.cells #[.map (some b)] 74)).heap.size 9 1 v ss.length ((ss.mergeSort (fun x y => decide (x ≤ y))).map encStr) ∧ (v = .slice none 0 0 ↔ ss = []) ∧ Below (w.alloc (.cells #[.map (some b)] 74)).heap.size (w.alloc (.cells #[.map (some b)] 74)) w' := by
  have hbl := hown.lt
  have hseq : SeqGives Fence.wide 2 Tryz.prog 98 #[.pointer (some ⟨w.heap.size, 0, none⟩)] encStr (fun ss => ss.Perm (strKeys D0)) (Maps.size D0) (w.alloc (.cells #[.map (some b)] 74)) :=
    AnyZ.keys_gives (ρ := Tryz.keys45_ren) { Tryz.keys45 with } Fence.wide _ trivial rfl (by omega) w.heap.size b nn D0 _ (by simp) (by simp) (by
      obtain ⟨es, clock, hb, Ft, hs, hD⟩ := hown
      exact ⟨es, clock, (Below.heap_alloc _ _ b hbl).trans hb, Ft, hs, hD⟩)
  exact callsIn_wide.1 (AnyZ.sorted_in Tryz.sorted44 Fence.wide 5 trivial trivial trivial trivial rfl (by omega) (sorts_call _) (enters_of Tryz.func97 (by kernel_rfl) rfl) 98 #[.pointer (some ⟨w.heap.size, 0, none⟩)] trivial (enters_of Tryz.func98 (by kernel_rfl) rfl) _ _ (by unfold maxLen; omega) (by omega) _ hseq)
set_option maxRecDepth 100000 in
theorem keys_names {w : World} {b : Nat} {l : List Fl} {D : DataW Unit} (hu : Up l) (hD : w.ownsMap Tryz.prog 9 ptrElem b l.length D) (hm : ∀ s : ByteArray, has D (kl s) = (find s l).isSome) : (l.map fun x => x.nm.data.toList).Perm (strKeys D) := by
  obtain ⟨es, rfl, hk⟩ := hD.keysOf
  obtain ⟨es', e, hp⟩ := hD.tidy law
  injection e with e
  subst e
  refine perm_strKeys hp (fun p hp' => ?_) ?_ (fun x => ?_)
  · obtain ⟨key, hkey⟩ := hk p hp'
    obtain ⟨x, _, hx, _⟩ := keyOf_str Tryz.underlying9 hkey
    exact ⟨x, hx⟩
  · exact (names_up hu).imp fun {a b} hab e => by subst e; exact absurd hab (List.lt_irrefl _)
  · have := hm ⟨x.toArray⟩
    unfold kl at this
    rw [this, Option.isSome_iff_exists, List.mem_map]
    constructor
    · rintro ⟨f, hf, rfl⟩
      exact ⟨f, find_of_mem hu hf⟩
    · rintro ⟨f, hf⟩
      obtain ⟨h1, h2⟩ := find_mem hf
      exact ⟨f, h1, by rw [h2]⟩
theorem enc_names (l : List Fl) : (l.map fun x => x.nm.data.toList).map encStr = (nms l).map Value.string := by
  unfold nms
  rw [List.map_map, List.map_map]
  exact List.map_congr_left fun x _ => rfl
set_option maxHeartbeats 1000000 in
theorem names_any {S : Nat → Prop} (g : Nat) (d : DS) (w : World) (h : Dk S w g d) (hn : d.l.length ≤ 1000000) :
    Calls Tryz.prog 37 #[.pointer (some ⟨g, 0, none⟩)] w (NamesP w d.l) := by
  obtain ⟨b, lf, loc, h⟩ := h
  have c1 : w.cell? ⟨g, 1, none⟩ = some (.map (some b)) := h.row.cell 1
  obtain ⟨D, hD, hz, hm⟩ := h.map
  have hp := keys_names h.ok.up hD (fun s => (hm s).1)
  have FIN := hide (show ∀ ss : List (List UInt8), ss.Perm (strKeys D) → ss.length = d.l.length ∧ (ss.mergeSort (fun x y => decide (x ≤ y))).map encStr = (nms d.l).map Value.string from fun ss hs => by
    have h1 := hs.trans hp.symm
    refine ⟨by rw [h1.length_eq, List.length_map], ?_⟩
    rw [sorted_names h.ok.up h1, enc_names])
  have HS := hide (sorted_call b d.l.length D w hD (by rw [hz]; exact hn))
  have HK := hide (keys_call (some b) w)
  clear hp hm hz hD h
  go_enter Tryz.func37, Tryz.ntmps37
  go_wp2_with (first
    | (go_at_call 72; refine HK.out.mono ?_; rintro e w' ⟨rfl, rfl⟩)
    | (go_at_call 71; refine HS.out.mono ?_; rintro e w2 ⟨v, ss, rfl, hS, hrow, hnil, hb⟩))
  obtain ⟨hl, hs⟩ := FIN.out ss hS
  have hb2 : Below w.heap.size w w2 := kept_trans (kept_alloc (kept_refl w) _) hb
  rw [hs, hl] at hrow
  obtain ⟨A, c, rfl, _⟩ := own_shape hrow
  go_ret
  refine ⟨A, c, rfl, ?_, Strs.of_own hrow, hb2, fun _ b2 off e => ?_⟩
  · rcases hrow.2 with ⟨hv, h0⟩ | ⟨q, cap, cur, hv, _, _, hc, _⟩
    · omega
    · injection hv with _ _ h3; rw [h3]; exact hc
  · have := (hrow.lt b2 (by rw [e]; rfl)).1
    simp at this
    omega
end Go.Proofs.YtkmcnhjfnjikaaaGreatDoor
