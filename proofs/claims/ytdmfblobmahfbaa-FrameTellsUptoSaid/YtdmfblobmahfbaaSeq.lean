/- Frames one behind the other, in plain words: where they are found, cut off, turned. No condition: nothing here speaks of a program. -/
import Derived.Test.YtdmfblobmahfbaaFrm
namespace Go.Proofs.Ytdmfblobmahfbaa
open Go.RowKit
/-- Frames one behind the other. -/
def enc (F : List (List Int)) : List Int := F.flatMap frm
theorem enc_append (F G : List (List Int)) : enc (F ++ G) = enc F ++ enc G := by unfold enc; rw [List.flatMap_append]
theorem enc_cons (p : List Int) (F : List (List Int)) : enc (p :: F) = frm p ++ enc F := by unfold enc; rw [List.flatMap_cons]
theorem enc_nil : enc [] = [] := rfl
theorem enc_one (p : List Int) : enc [p] = frm p := by rw [enc_cons, enc_nil, List.append_nil]
/-- Payloads that may be. -/
def Right (F : List (List Int)) : Prop := ∀ p, p ∈ F → May p.length ∧ Octets p
theorem octets_enc : ∀ {F : List (List Int)}, Right F → Octets (enc F)
  | [], _ => fun z hz => by rw [enc_nil] at hz; cases hz
  | p :: F, h => by
    rw [enc_cons]
    exact (octets_frm (h p List.mem_cons_self).2).append (octets_enc fun q hq => h q (List.mem_cons_of_mem _ hq))
theorem enc_walk {F : List (List Int)} {r : List Int} (h : Right F) : ∀ j, j ≤ F.length → (enc F ++ r).drop (plc (enc F ++ r) j) = enc (F.drop j) ++ r ∧ plc (enc F ++ r) j = (enc (F.take j)).length ∧ pays (enc F ++ r) j = F.take j ∧ ∀ i, i < j → nxE ((enc F ++ r).drop (plc (enc F ++ r) i)) = 0
  | 0, _ => ⟨rfl, rfl, rfl, fun i hi => absurd hi (by omega)⟩
  | j + 1, hj => by
    obtain ⟨h1, h2, h3, h4⟩ := enc_walk h j (by omega)
    have hlt : j < F.length := by omega
    have hd : F.drop j = F[j] :: F.drop (j + 1) := List.drop_eq_getElem_cons hlt
    have hr := h F[j] (List.getElem_mem hlt)
    have hz : (enc F ++ r).drop (plc (enc F ++ r) j) = frm F[j] ++ (enc (F.drop (j + 1)) ++ r) := by rw [h1, hd, enc_cons, List.append_assoc]
    have hN := nxN_frm (enc (F.drop (j + 1)) ++ r) hr.1
    have hE := nxE_frm (enc (F.drop (j + 1)) ++ r) hr.1 hr.2
    have hP := nxP_frm (enc (F.drop (j + 1)) ++ r) hr.1
    have hp : plc (enc F ++ r) (j + 1) = plc (enc F ++ r) j + (frm F[j]).length := by
      show plc (enc F ++ r) j + nxN ((enc F ++ r).drop (plc (enc F ++ r) j)) + 6 = _
      rw [hz, hN, length_frm]; omega
    have ht : F.take (j + 1) = F.take j ++ [F[j]] := (List.take_append_getElem hlt).symm
    refine ⟨?_, ?_, ?_, fun i hi => ?_⟩
    · rw [hp, ← List.drop_drop, hz, List.drop_left]
    · rw [hp, h2, ht, enc_append, enc_one, List.length_append]
    · show pays (enc F ++ r) j ++ [nxP ((enc F ++ r).drop (plc (enc F ++ r) j))] = _
      rw [h3, hz, hP, ht]
    · by_cases hi2 : i < j
      · exact h4 i hi2
      · obtain rfl : i = j := by omega
        rw [hz]; exact hE
/-- All of them are found, where none stands behind. -/
theorem enc_upto {F : List (List Int)} {r : List Int} (h : Right F) (hr : nxE r ≠ 0) : Upto (enc F ++ r) F.length ∧ plc (enc F ++ r) F.length = (enc F).length ∧ pays (enc F ++ r) F.length = F := by
  obtain ⟨h1, h2, h3, h4⟩ := enc_walk (r := r) h F.length (Nat.le_refl _)
  rw [List.drop_length, enc_nil, List.nil_append] at h1
  rw [List.take_length] at h2 h3
  exact ⟨⟨h4, by rw [h1]; exact hr⟩, h2, h3⟩
/-- The number is what the first two bytes say. -/
theorem nxN_take {r s : List Int} (h : r.take 2 = s.take 2) : nxN r = nxN s := by
  unfold nxN
  have e : ∀ t : List Int, le t 0 2 = le (t.take 2) 0 2 := fun t => by
    have hx : ∀ k, k < 2 → ix (t.take 2) k = ix t k := fun k hk => by
      unfold ix; rw [List.getD_eq_getElem?_getD, List.getD_eq_getElem?_getD, List.getElem?_take, if_pos hk]
    show 0 + ix t (0 + 0) * 256 ^ 0 + ix t (0 + 1) * 256 ^ 1 = 0 + ix (t.take 2) (0 + 0) * 256 ^ 0 + ix (t.take 2) (0 + 1) * 256 ^ 1
    rw [hx _ (by omega), hx _ (by omega)]
  rw [e r, e s, h]
theorem nxE_nil : nxE [] ≠ 0 := by decide
/-- One that is cut off isn't found. -/
theorem nxE_cut {p : List Int} (hp : May p.length) {k : Nat} (hk : k < (frm p).length) : nxE ((frm p).take k) ≠ 0 := by
  have hl := length_frm p
  have hlt : ((frm p).take k).length = k := by rw [List.length_take]; omega
  by_cases h2 : k < 2
  · unfold nxE; rw [hlt, if_pos h2]; decide
  · have hN : nxN ((frm p).take k) = p.length := by
      have h0 := nxN_frm [] hp
      rw [List.append_nil] at h0
      rw [← h0]
      apply nxN_take
      rw [List.take_take, Nat.min_eq_left (by omega)]
    unfold nxE
    rw [hlt, if_neg h2, hN, if_neg (fun g => g hp), if_pos (by omega)]
    decide
/-! ### Turned bits -/
theorem turned_zero : ∀ {xs ys : List Nat}, Turned 0 xs ys → ys = xs
  | [], _, h => h.1
  | x :: xs, _, h => by
    obtain ⟨y, yt, rfl, rfl, ht⟩ := h
    have h1 : yt = xs := turned_zero (xs := xs) (ys := yt) (by simpa using ht)
    rw [h1]; simp
theorem turned_split : ∀ {us bs cs : List Nat} {m : Nat}, Turned m (us ++ bs) cs → ∃ us' bs', cs = us' ++ bs' ∧ Turned (m % 2 ^ (8 * us.length)) us us' ∧ Turned (m / 2 ^ (8 * us.length)) bs bs'
  | [], bs, cs, m, h => ⟨[], cs, rfl, ⟨rfl, by simp [Nat.mod_one]⟩, by simpa using h⟩
  | a :: us, bs, cs, m, h => by
    obtain ⟨y, yt, rfl, rfl, ht⟩ := h
    obtain ⟨us', bs', rfl, h1, h2⟩ := turned_split (us := us) ht
    have e : 2 ^ (8 * (a :: us).length) = 256 * 2 ^ (8 * us.length) := by
      have : 8 * (a :: us).length = 8 + 8 * us.length := by rw [List.length_cons]; omega
      rw [this, Nat.pow_add]
    refine ⟨(a ^^^ m % 256) :: us', bs', rfl, ⟨a ^^^ m % 256, us', rfl, ?_, ?_⟩, ?_⟩
    · rw [e, Nat.mod_mul_right_mod]
    · rw [e, Nat.mod_mul_right_div_self]; exact h1
    · rw [e, ← Nat.div_div_eq_div_mul]; exact h2
theorem nats_append (xs ys : List Int) : nats (xs ++ ys) = nats xs ++ nats ys := List.map_append
theorem nats_inj : ∀ {xs ys : List Int}, Octets xs → Octets ys → nats xs = nats ys → xs = ys
  | [], [], _, _, _ => rfl
  | [], y :: ys, _, _, h => by simp [nats] at h
  | x :: xs, [], _, _, h => by simp [nats] at h
  | x :: xs, y :: ys, hx, hy, h => by
    have h1 : x.toNat = y.toNat ∧ nats xs = nats ys := by simpa [nats] using h
    have a := hx x List.mem_cons_self
    have b := hy y List.mem_cons_self
    rw [nats_inj (fun z hz => hx z (List.mem_cons_of_mem _ hz)) (fun z hz => hy z (List.mem_cons_of_mem _ hz)) h1.2]
    congr 1
    omega
/-- Bytes of which some were turned, in two parts. -/
theorem parts_turned {A B ys : List Int} {m : Nat} (h : Turned m (nats (A ++ B)) (nats ys)) : Turned (m % 2 ^ (8 * A.length)) (nats A) (nats (ys.take A.length)) ∧ Turned (m / 2 ^ (8 * A.length)) (nats B) (nats (ys.drop A.length)) := by
  rw [nats_append] at h
  obtain ⟨us', bs', e, h1, h2⟩ := turned_split h
  rw [length_nats] at h1 h2
  have hl := turned_length h1
  rw [length_nats] at hl
  have e1 : us' = nats (ys.take A.length) := by
    have h3 : (nats ys).take A.length = us' := by rw [e, ← hl, List.take_left]
    rw [← h3]; unfold nats; rw [List.map_take]
  have e2 : bs' = nats (ys.drop A.length) := by
    have h3 : (nats ys).drop A.length = bs' := by rw [e, ← hl, List.drop_left]
    rw [← h3]; unfold nats; rw [List.map_drop]
  rw [e1] at h1
  rw [e2] at h2
  exact ⟨h1, h2⟩
/-- A number of which bits were turned. -/
theorem le_turned : ∀ (k : Nat) {zs ys : List Int} {m : Nat}, zs.length = k → Octets zs → Octets ys → Turned m (nats zs) (nats ys) → le ys 0 k = (((le zs 0 k).toNat ^^^ m : Nat) : Int)
  | 0, zs, ys, m, hl, _, _, h => by
    have : zs = [] := List.eq_nil_of_length_eq_zero hl
    subst this
    have hm : m = 0 := h.2
    subst hm
    rfl
  | k + 1, [], _, _, hl, _, _, _ => by simp at hl
  | k + 1, z :: zs, [], m, hl, _, _, h => by
    obtain ⟨y, yt, e, _, _⟩ := h
    simp [nats] at e
  | k + 1, z :: zs, y :: ys, m, hl, hz, hy, h => by
    obtain ⟨y', yt, e, hy', ht⟩ := h
    have e' : y.toNat = y' ∧ nats ys = yt := by simpa [nats] using e
    obtain ⟨rfl, rfl⟩ := e'
    have hz' : Octets zs := fun a ha => hz a (List.mem_cons_of_mem _ ha)
    have ih := le_turned k (zs := zs) (ys := ys) (by simpa using hl) hz' (fun a ha => hy a (List.mem_cons_of_mem _ ha)) ht
    have b1 := hz z List.mem_cons_self
    have b2 := hy y List.mem_cons_self
    have hn := (le_bounds hz' 0 k).1
    rw [le_low, le_low]
    have d1 : le (y :: ys) (0 + 1) k = le ys 0 k := (le_drop (y :: ys) 1 0 k).symm
    have d2 : le (z :: zs) (0 + 1) k = le zs 0 k := (le_drop (z :: zs) 1 0 k).symm
    rw [d1, d2, ih]
    show y + 256 * _ = (((z + 256 * le zs 0 k).toNat ^^^ m : Nat) : Int)
    obtain ⟨X, hX⟩ := Int.eq_ofNat_of_zero_le hn
    obtain ⟨Z, rfl⟩ := Int.eq_ofNat_of_zero_le b1.1
    have ey : y = ((Z ^^^ m % 256 : Nat) : Int) := by
      have : y = ((y.toNat : Nat) : Int) := (Int.toNat_of_nonneg b2.1).symm
      rw [this, hy', Int.toNat_natCast]
    rw [hX, Int.toNat_natCast, ey]
    have e1 : ((Z : Int) + 256 * (X : Int)).toNat = 2 ^ 8 * X + Z := by omega
    rw [e1]
    have hZ : Z < 2 ^ 8 := by omega
    have hY : Z ^^^ m % 256 < 2 ^ 8 := Nat.xor_lt_two_pow hZ (Nat.mod_lt _ (by decide))
    have e2 : (2 ^ 8 * X + Z) ^^^ m = 2 ^ 8 * (X ^^^ m / 256) + (Z ^^^ m % 256) := by
      apply Nat.eq_of_testBit_eq
      intro i
      have p8 : (256 : Nat) = 2 ^ 8 := by decide
      rw [Nat.testBit_xor, Nat.testBit_two_pow_mul_add _ hZ, Nat.testBit_two_pow_mul_add _ hY]
      by_cases hi : i < 8
      · rw [if_pos hi, if_pos hi, Nat.testBit_xor, p8, Nat.testBit_mod_two_pow]
        simp [hi]
      · rw [if_neg hi, if_neg hi, Nat.testBit_xor, p8, Nat.testBit_div_two_pow]
        congr 2
        omega
    rw [e2]
    omega
theorem mod_xor (m L : Nat) : m = m % 2 ^ L ^^^ 2 ^ L * (m / 2 ^ L) := by
  apply Nat.eq_of_testBit_eq
  intro i
  rw [Nat.testBit_xor, Nat.testBit_mod_two_pow, Nat.testBit_two_pow_mul, Nat.testBit_div_two_pow]
  by_cases hi : i < L
  · have : ¬ i ≥ L := by omega
    simp [hi, this]
  · have h2 : i ≥ L := by omega
    have h3 : i - L + L = i := by omega
    simp [hi, h2, h3]
theorem stpN_burst {T b : Nat} (L : Nat) (hb : b < 4294967296) (h0 : b ≠ 0) : stpN L (2 ^ T * b) ≠ 0 := by
  by_cases hT : T ≤ L
  · have e : L = T + (L - T) := by omega
    rw [e, stpN_add, stpN_pow]
    have := stpN_pos (Nat.pos_of_ne_zero h0) hb (L - T)
    omega
  · have e : T = L + (T - L) := by omega
    rw [e, Nat.pow_add, Nat.mul_assoc, stpN_pow]
    have := Nat.mul_pos (Nat.two_pow_pos (T - L)) (Nat.pos_of_ne_zero h0)
    omega
/-- A frame of which bits were turned behind its first two bytes isn't found. -/
theorem nxE_turned {q ys : List Int} {T b : Nat} (hq : May q.length) (oq : Octets q) (oy : Octets ys) (h : Turned (2 ^ T * b) (nats (frm q)) (nats ys)) (hT : 16 ≤ T) (hb : b < 4294967296) (h0 : b ≠ 0) : nxE ys ≠ 0 := by
  have hl := turned_length h
  rw [length_nats, length_nats, length_frm] at hl
  have ef : frm q = putL (q.length : Int) 2 ++ (q ++ putL (sumL (body q)) 4) := by unfold frm body; rw [List.append_assoc]
  have h2 := (parts_turned (A := putL (q.length : Int) 2) (by rw [← ef]; exact h)).1
  rw [length_putL] at h2
  have e0 : 2 ^ T * b % 2 ^ (8 * 2) = 0 := by
    have : T = 16 + (T - 16) := by omega
    rw [this, Nat.pow_add, Nat.mul_assoc]
    exact Nat.mul_mod_right _ _
  rw [e0] at h2
  have ht : ys.take 2 = putL (q.length : Int) 2 := nats_inj (fun z hz => oy z (List.mem_of_mem_take hz)) (octets_putL _ 2) (turned_zero h2)
  have hN : nxN ys = q.length := by
    have h3 := nxN_frm [] hq
    rw [List.append_nil] at h3
    rw [← h3]
    apply nxN_take
    rw [ht, ef, List.take_append_of_le_length (by rw [length_putL]; omega), List.take_of_length_le (by rw [length_putL]; omega)]
  unfold nxE
  rw [hl, hN, if_neg (by omega), if_neg (fun g => g hq), if_neg (by omega), if_pos]
  · decide
  intro he
  have hb2 : (body q).length = 2 + q.length := by rw [length_body]; omega
  have h4 := parts_turned (A := body q) (B := putL (sumL (body q)) 4) (by exact h)
  rw [hb2] at h4
  obtain ⟨t1, t2⟩ := h4
  have hs := sumL_bounds (octets_body oq)
  have d1 : le ys (2 + q.length) 4 = le (ys.drop (2 + q.length)) 0 4 := (le_drop ys (2 + q.length) 0 4).symm
  have d2 := le_turned 4 (zs := putL (sumL (body q)) 4) (ys := ys.drop (2 + q.length)) (length_putL _ 4) (octets_putL _ 4) (fun z hz => oy z (List.mem_of_mem_drop hz)) t2
  have d3 : le (putL (sumL (body q)) 4) 0 4 = sumL (body q) := by
    rw [le_putL _ 4 0 4 (by omega)]
    have e2 : (256 : Int) ^ 0 = 1 := rfl
    have e3 : (256 : Int) ^ 4 = 4294967296 := by decide
    rw [e2, e3, Int.ediv_one, Int.emod_eq_of_lt (by omega) (by omega)]
  rw [d1, d2, d3] at he
  have hc := turned_crc t1 (0 ^^^ 4294967295) 0
  rw [Nat.zero_xor, Nat.xor_zero, length_nats, hb2] at hc
  have he2 : crc 0 (nats (ys.take (2 + q.length))) = crc 0 (nats (body q)) ^^^ (2 ^ T * b) / 2 ^ (8 * (2 + q.length)) := by
    have h5 : ((crc 0 (nats (ys.take (2 + q.length))) : Nat) : Int) = (((((crc 0 (nats (body q)) : Nat) : Int)).toNat ^^^ (2 ^ T * b) / 2 ^ (8 * (2 + q.length)) : Nat) : Int) := he
    rw [Int.toNat_natCast] at h5
    omega
  unfold crc at he2
  generalize hL : 8 * (2 + q.length) = L at *
  generalize crcS (0 ^^^ 4294967295) (nats (body q)) = u at *
  generalize crcS (0 ^^^ 4294967295) (nats (ys.take (2 + q.length))) = v at *
  have hv : v = u ^^^ 2 ^ T * b / 2 ^ L := by
    have h6 := congrArg (· ^^^ 4294967295) he2
    simp only [xor_cancel] at h6
    rw [h6, Nat.xor_assoc, Nat.xor_assoc, Nat.xor_comm (2 ^ T * b / 2 ^ L), ← Nat.xor_assoc 4294967295, Nat.xor_self, Nat.zero_xor]
  apply stpN_burst (T := T) L hb h0
  rw [mod_xor (2 ^ T * b) L, stpN_xor, stpN_pow, hc, hv, ← Nat.xor_assoc, Nat.xor_self, Nat.zero_xor, Nat.xor_self]
end Go.Proofs.Ytdmfblobmahfbaa
