/- Frames in plain words: what is written, what is found. No condition: nothing here speaks of a program. -/
import Derived.Test.YtdmfblobmahfbaaLe
import Derived.Test.YtdmfblobmahfbaaOn
namespace Go.Proofs.Ytdmfblobmahfbaa
open Go.RowKit
/-- May a payload have so many bytes? -/
def May (n : Nat) : Prop := 1 ≤ n ∧ n ≤ 16384
instance (n : Nat) : Decidable (May n) := by unfold May; infer_instance
/-- The number and the payload. -/
def body (p : List Int) : List Int := putL (p.length : Int) 2 ++ p
/-- The sum of bytes. -/
def sumL (zs : List Int) : Int := ((crc 0 (nats zs) : Nat) : Int)
def frm (p : List Int) : List Int := body p ++ putL (sumL (body p)) 4
def putF (b p : List Int) : List Int := if May p.length then b ++ frm p else b
theorem length_body (p : List Int) : (body p).length = p.length + 2 := by unfold body; rw [List.length_append, length_putL]; omega
theorem length_frm (p : List Int) : (frm p).length = p.length + 6 := by unfold frm; rw [List.length_append, length_putL, length_body]
theorem octets_body {p : List Int} (h : Octets p) : Octets (body p) := (octets_putL _ 2).append h
theorem octets_frm {p : List Int} (h : Octets p) : Octets (frm p) := (octets_body h).append (octets_putL _ 4)
theorem octets_putF {b p : List Int} (h : Octets b) (g : Octets p) : Octets (putF b p) := by
  unfold putF; split
  · exact h.append (octets_frm g)
  · exact h
theorem sumL_bounds {zs : List Int} (h : Octets zs) : 0 ≤ sumL zs ∧ sumL zs ≤ 4294967295 := by
  have := crc_lt (c := 0) (by omega) (bytes_nats h)
  unfold sumL; omega
/-- Out of what is left: how many bytes the payload has, what is wrong, the payload. -/
def nxN (r : List Int) : Nat := (le r 0 2).toNat
def nxE (r : List Int) : Int := if r.length < 2 then 3 else if ¬ May (nxN r) then 4 else if r.length < nxN r + 6 then 3 else if sumL (r.take (2 + nxN r)) ≠ le r (2 + nxN r) 4 then 6 else 0
def nxP (r : List Int) : List Int := (r.drop 2).take (nxN r)
def nextE (zs : List Int) (i : Int) : Int := if i < 0 ∨ (zs.length : Int) < i then 1 else nxE (zs.drop i.toNat)
def nextP (zs : List Int) (i : Int) : List Int := if nextE zs i = 0 then nxP (zs.drop i.toNat) else []
def nextT (zs : List Int) (i : Int) : Int := if nextE zs i = 0 then i + (nxN (zs.drop i.toNat) : Nat) + 6 else 0
theorem ix_drop (zs : List Int) (i j : Nat) : ix (zs.drop i) j = ix zs (i + j) := by
  unfold ix; rw [List.getD_eq_getElem?_getD, List.getD_eq_getElem?_getD, List.getElem?_drop]
theorem le_drop (zs : List Int) (i j : Nat) : ∀ k, le (zs.drop i) j k = le zs (i + j) k
  | 0 => rfl
  | k + 1 => by rw [le_succ, le_succ, le_drop zs i j k, ix_drop, Nat.add_assoc]
theorem ix_left (zs ys : List Int) {j : Nat} (h : j < zs.length) : ix (zs ++ ys) j = ix zs j := by
  unfold ix; rw [List.getD_eq_getElem?_getD, List.getD_eq_getElem?_getD, List.getElem?_append_left h]
theorem ix_right (zs ys : List Int) (j : Nat) : ix (zs ++ ys) (zs.length + j) = ix ys j := by
  unfold ix; rw [List.getD_eq_getElem?_getD, List.getD_eq_getElem?_getD, List.getElem?_append_right (by omega)]; congr 2; omega
theorem le_left (zs ys : List Int) (i : Nat) : ∀ k, i + k ≤ zs.length → le (zs ++ ys) i k = le zs i k
  | 0, _ => rfl
  | k + 1, h => by rw [le_succ, le_succ, le_left zs ys i k (by omega), ix_left zs ys (by omega)]
theorem le_right (zs ys : List Int) (i : Nat) : ∀ k, le (zs ++ ys) (zs.length + i) k = le ys i k
  | 0 => rfl
  | k + 1 => by rw [le_succ, le_succ, le_right zs ys i k, Nat.add_assoc, ix_right]
theorem le2_bounds {zs : List Int} (h : Octets zs) (i : Nat) : 0 ≤ le zs i 2 ∧ le zs i 2 ≤ 65535 := by
  have := le_bounds h i 2
  have e : (256 : Int) ^ 2 = 65536 := by decide
  omega
theorem le4_bounds {zs : List Int} (h : Octets zs) (i : Nat) : 0 ≤ le zs i 4 ∧ le zs i 4 ≤ 4294967295 := by
  have := le_bounds h i 4
  have e : (256 : Int) ^ 4 = 4294967296 := by decide
  omega
/-- The places of the frames, one behind the other, and their payloads. -/
def plc (zs : List Int) : Nat → Nat
  | 0 => 0
  | j + 1 => plc zs j + nxN (zs.drop (plc zs j)) + 6
def pays (zs : List Int) : Nat → List (List Int)
  | 0 => []
  | j + 1 => pays zs j ++ [nxP (zs.drop (plc zs j))]
theorem length_pays (zs : List Int) : ∀ j, (pays zs j).length = j
  | 0 => rfl
  | j + 1 => by show (pays zs j ++ [_]).length = _; rw [List.length_append, length_pays zs j]; rfl
/-- So many frames are found. -/
def Upto (zs : List Int) (J : Nat) : Prop := (∀ j, j < J → nxE (zs.drop (plc zs j)) = 0) ∧ nxE (zs.drop (plc zs J)) ≠ 0
theorem Upto.same {zs : List Int} {J K : Nat} (h : Upto zs J) (g : Upto zs K) : J = K := by
  rcases Nat.lt_trichotomy J K with hl | hl | hl
  · exact absurd (g.1 J hl) h.2
  · exact hl
  · exact absurd (h.1 K hl) g.2
theorem nxE_ok {r : List Int} (h : nxE r = 0) : 2 ≤ r.length ∧ May (nxN r) ∧ nxN r + 6 ≤ r.length ∧ sumL (r.take (2 + nxN r)) = le r (2 + nxN r) 4 := by
  unfold nxE at h
  by_cases h1 : r.length < 2
  · rw [if_pos h1] at h; exact absurd h (by decide)
  · rw [if_neg h1] at h
    by_cases h2 : May (nxN r)
    · rw [if_neg (fun g => g h2)] at h
      by_cases h3 : r.length < nxN r + 6
      · rw [if_pos h3] at h; exact absurd h (by decide)
      · rw [if_neg h3] at h
        by_cases h4 : sumL (r.take (2 + nxN r)) = le r (2 + nxN r) 4
        · exact ⟨by omega, h2, by omega, h4⟩
        · rw [if_pos h4] at h; exact absurd h (by decide)
    · rw [if_pos h2] at h; exact absurd h (by decide)
theorem length_nxP {r : List Int} (h : nxE r = 0) : (nxP r).length = nxN r := by
  have := nxE_ok h
  unfold nxP; rw [List.length_take, List.length_drop]; omega
theorem plc_le {zs : List Int} : ∀ J, (∀ j, j < J → nxE (zs.drop (plc zs j)) = 0) → plc zs J ≤ zs.length
  | 0, _ => Nat.zero_le _
  | J + 1, h => by
    have h1 := plc_le J fun j hj => h j (by omega)
    have h2 := nxE_ok (h J (by omega))
    have h3 := h2.2.2.1
    rw [List.length_drop] at h3
    show plc zs J + nxN (zs.drop (plc zs J)) + 6 ≤ zs.length
    omega
/-- A frame is found where it was written. -/
theorem nxN_frm {p : List Int} (r : List Int) (hp : May p.length) : nxN (frm p ++ r) = p.length := by
  unfold nxN
  have e : frm p ++ r = putL (p.length : Int) 2 ++ (p ++ (putL (sumL (body p)) 4 ++ r)) := by unfold frm body; simp [List.append_assoc]
  rw [e, le_left _ _ 0 2 (by rw [length_putL]; omega), le_putL _ 2 0 2 (by omega)]
  have h1 := hp.2
  have e2 : (256 : Int) ^ 0 = 1 := rfl
  have e3 : (256 : Int) ^ 2 = 65536 := by decide
  rw [e2, e3, Int.ediv_one, Int.emod_eq_of_lt (by omega) (by omega)]
  omega
theorem nxE_frm {p : List Int} (r : List Int) (hp : May p.length) (ho : Octets p) : nxE (frm p ++ r) = 0 := by
  have hl := length_frm p
  have hb := length_body p
  unfold nxE
  rw [nxN_frm r hp, List.length_append, hl, if_neg (by omega), if_neg (fun g => g hp), if_neg (by omega), if_neg]
  intro g
  apply g
  have e : frm p ++ r = body p ++ (putL (sumL (body p)) 4 ++ r) := by unfold frm; rw [List.append_assoc]
  have e1 : 2 + p.length = (body p).length + 0 := by omega
  rw [e, e1, le_right, le_left _ _ 0 4 (by rw [length_putL]; omega), le_putL _ 4 0 4 (by omega), Nat.add_zero, List.take_left]
  have h1 := sumL_bounds (octets_body ho)
  have e2 : (256 : Int) ^ 0 = 1 := rfl
  have e3 : (256 : Int) ^ 4 = 4294967296 := by decide
  rw [e2, e3, Int.ediv_one, Int.emod_eq_of_lt (by omega) (by omega)]
theorem nxP_frm {p : List Int} (r : List Int) (hp : May p.length) : nxP (frm p ++ r) = p := by
  unfold nxP
  rw [nxN_frm r hp]
  have e : frm p ++ r = putL (p.length : Int) 2 ++ (p ++ (putL (sumL (body p)) 4 ++ r)) := by unfold frm body; simp [List.append_assoc]
  rw [e]
  have h2 : 2 = (putL (p.length : Int) 2).length := (length_putL _ 2).symm
  rw [List.drop_append_of_le_length (by omega), List.drop_eq_nil_of_le (by omega), List.nil_append, List.take_left]
end Go.Proofs.Ytdmfblobmahfbaa
