/- Frames in plain words: what is written, what is found. No condition: nothing here speaks of a program. -/
import Derived.Test.YtkmcnhjfnjikaaaGreatDoorKcro
import Derived.Test.YtkmcnhjfnjikaaaGreatDoorKbas
import Derived.Maps.AppendAt
namespace Go.Proofs.YtkmcnhjfnjikaaaGreatDoor
open Go.RowKit
/-- May a payload have so many bytes? -/
def May (n : Nat) : Prop := 1 ≤ n ∧ n ≤ 16384
instance (n : Nat) : Decidable (May n) := by unfold May; infer_instance
/-- The number and the payload. -/
def body (p : List Int) : List Int := putL (p.length : Int) 2 ++ p
/-- The sum of bytes. -/
def sumL (zs : List Int) : Int := ((crc 0 (nats zs) : Nat) : Int)
def frm (p : List Int) : List Int := body p ++ putL (sumL (body p)) 4
def putR (b p : List Int) : List Int := if May p.length then b ++ frm p else b
theorem length_body (p : List Int) : (body p).length = p.length + 2 := by unfold body; rw [List.length_append, length_putL]; omega
theorem length_frm (p : List Int) : (frm p).length = p.length + 6 := by unfold frm; rw [List.length_append, length_putL, length_body]
theorem octets_body {p : List Int} (h : Octets p) : Octets (body p) := (octets_putL _ 2).append h
theorem octets_frm {p : List Int} (h : Octets p) : Octets (frm p) := (octets_body h).append (octets_putL _ 4)
theorem octets_putF {b p : List Int} (h : Octets b) (g : Octets p) : Octets (putR b p) := by
  unfold putR; split
  · exact h.append (octets_frm g)
  · exact h
theorem sumL_bounds {zs : List Int} (h : Octets zs) : 0 ≤ sumL zs ∧ sumL zs ≤ 4294967295 := by
  have := crc_lt (c := 0) (by omega) (bytes_nats h)
  unfold sumL; omega
/-- Out of what is left: how many bytes the payload has, what is wrong, the payload. -/
def nxN (r : List Int) : Nat := (le r 0 2).toNat
def nxE (r : List Int) : Int := if r.length < 2 then 3 else if ¬ May (nxN r) then 4 else if r.length < nxN r + 6 then 3 else if sumL (r.take (2 + nxN r)) ≠ le r (2 + nxN r) 4 then 6 else 0
def nxP (r : List Int) : List Int := (r.drop 2).take (nxN r)
def nextE (zs : List Int) (i : Int) : Int := if i < 0 ∨ (zs.length : Int) < i then 1 else nxE (zs.drop i.toNat)
def nextP (zs : List Int) (i : Int) : List Int := if nextE zs i = 0 then nxP (zs.drop i.toNat) else []
def nextU (zs : List Int) (i : Int) : Int := if nextE zs i = 0 then i + (nxN (zs.drop i.toNat) : Nat) + 6 else 0
theorem ix_drop (zs : List Int) (i j : Nat) : ix (zs.drop i) j = ix zs (i + j) := by
  unfold ix; rw [List.getD_eq_getElem?_getD, List.getD_eq_getElem?_getD, List.getElem?_drop]
theorem le_drop (zs : List Int) (i j : Nat) : ∀ k, le (zs.drop i) j k = le zs (i + j) k
  | 0 => rfl
  | k + 1 => by rw [le_succ, le_succ, le_drop zs i j k, ix_drop, Nat.add_assoc]
theorem ix_left (zs ys : List Int) {j : Nat} (h : j < zs.length) : ix (zs ++ ys) j = ix zs j := by
  unfold ix; rw [List.getD_eq_getElem?_getD, List.getD_eq_getElem?_getD, List.getElem?_append_left h]
theorem ix_right (zs ys : List Int) (j : Nat) : ix (zs ++ ys) (zs.length + j) = ix ys j := by
  unfold ix; rw [List.getD_eq_getElem?_getD, List.getD_eq_getElem?_getD, List.getElem?_append_right (by omega)]; congr 2; omega
theorem le_left (zs ys : List Int) (i : Nat) : ∀ k, i + k ≤ zs.length → le (zs ++ ys) i k = le zs i k
  | 0, _ => rfl
  | k + 1, h => by rw [le_succ, le_succ, le_left zs ys i k (by omega), ix_left zs ys (by omega)]
theorem le_right (zs ys : List Int) (i : Nat) : ∀ k, le (zs ++ ys) (zs.length + i) k = le ys i k
  | 0 => rfl
  | k + 1 => by rw [le_succ, le_succ, le_right zs ys i k, Nat.add_assoc, ix_right]
theorem le2_bounds {zs : List Int} (h : Octets zs) (i : Nat) : 0 ≤ le zs i 2 ∧ le zs i 2 ≤ 65535 := by
  have := le_bounds h i 2
  have e : (256 : Int) ^ 2 = 65536 := by decide
  omega
theorem le4_bounds {zs : List Int} (h : Octets zs) (i : Nat) : 0 ≤ le zs i 4 ∧ le zs i 4 ≤ 4294967295 := by
  have := le_bounds h i 4
  have e : (256 : Int) ^ 4 = 4294967296 := by decide
  omega
/-- The places of the frames, one behind the other, and their payloads. -/
def plc (zs : List Int) : Nat → Nat
  | 0 => 0
  | j + 1 => plc zs j + nxN (zs.drop (plc zs j)) + 6
def pays (zs : List Int) : Nat → List (List Int)
  | 0 => []
  | j + 1 => pays zs j ++ [nxP (zs.drop (plc zs j))]
theorem length_pays (zs : List Int) : ∀ j, (pays zs j).length = j
  | 0 => rfl
  | j + 1 => by show (pays zs j ++ [_]).length = _; rw [List.length_append, length_pays zs j]; rfl
/-- So many frames are found. -/
def Upto (zs : List Int) (J : Nat) : Prop := (∀ j, j < J → nxE (zs.drop (plc zs j)) = 0) ∧ nxE (zs.drop (plc zs J)) ≠ 0
theorem Upto.same {zs : List Int} {J K : Nat} (h : Upto zs J) (g : Upto zs K) : J = K := by
  rcases Nat.lt_trichotomy J K with hl | hl | hl
  · exact absurd (g.1 J hl) h.2
  · exact hl
  · exact absurd (h.1 K hl) g.2
theorem nxE_ok {r : List Int} (h : nxE r = 0) : 2 ≤ r.length ∧ May (nxN r) ∧ nxN r + 6 ≤ r.length ∧ sumL (r.take (2 + nxN r)) = le r (2 + nxN r) 4 := by
  unfold nxE at h
  by_cases h1 : r.length < 2
  · rw [if_pos h1] at h; exact absurd h (by decide)
  · rw [if_neg h1] at h
    by_cases h2 : May (nxN r)
    · rw [if_neg (fun g => g h2)] at h
      by_cases h3 : r.length < nxN r + 6
      · rw [if_pos h3] at h; exact absurd h (by decide)
      · rw [if_neg h3] at h
        by_cases h4 : sumL (r.take (2 + nxN r)) = le r (2 + nxN r) 4
        · exact ⟨by omega, h2, by omega, h4⟩
        · rw [if_pos h4] at h; exact absurd h (by decide)
    · rw [if_pos h2] at h; exact absurd h (by decide)
theorem length_nxP {r : List Int} (h : nxE r = 0) : (nxP r).length = nxN r := by
  have := nxE_ok h
  unfold nxP; rw [List.length_take, List.length_drop]; omega
theorem plc_le {zs : List Int} : ∀ J, (∀ j, j < J → nxE (zs.drop (plc zs j)) = 0) → plc zs J ≤ zs.length
  | 0, _ => Nat.zero_le _
  | J + 1, h => by
    have h1 := plc_le J fun j hj => h j (by omega)
    have h2 := nxE_ok (h J (by omega))
    have h3 := h2.2.2.1
    rw [List.length_drop] at h3
    show plc zs J + nxN (zs.drop (plc zs J)) + 6 ≤ zs.length
    omega
/-- A frame is found where it was written. -/
theorem nxN_frm {p : List Int} (r : List Int) (hp : May p.length) : nxN (frm p ++ r) = p.length := by
  unfold nxN
  have e : frm p ++ r = putL (p.length : Int) 2 ++ (p ++ (putL (sumL (body p)) 4 ++ r)) := by unfold frm body; simp [List.append_assoc]
  rw [e, le_left _ _ 0 2 (by rw [length_putL]; omega), le_putL _ 2 0 2 (by omega)]
  have h1 := hp.2
  have e2 : (256 : Int) ^ 0 = 1 := rfl
  have e3 : (256 : Int) ^ 2 = 65536 := by decide
  rw [e2, e3, Int.ediv_one, Int.emod_eq_of_lt (by omega) (by omega)]
  omega
theorem nxE_frm {p : List Int} (r : List Int) (hp : May p.length) (ho : Octets p) : nxE (frm p ++ r) = 0 := by
  have hl := length_frm p
  have hb := length_body p
  unfold nxE
  rw [nxN_frm r hp, List.length_append, hl, if_neg (by omega), if_neg (fun g => g hp), if_neg (by omega), if_neg]
  intro g
  apply g
  have e : frm p ++ r = body p ++ (putL (sumL (body p)) 4 ++ r) := by unfold frm; rw [List.append_assoc]
  have e1 : 2 + p.length = (body p).length + 0 := by omega
  rw [e, e1, le_right, le_left _ _ 0 4 (by rw [length_putL]; omega), le_putL _ 4 0 4 (by omega), Nat.add_zero, List.take_left]
  have h1 := sumL_bounds (octets_body ho)
  have e2 : (256 : Int) ^ 0 = 1 := rfl
  have e3 : (256 : Int) ^ 4 = 4294967296 := by decide
  rw [e2, e3, Int.ediv_one, Int.emod_eq_of_lt (by omega) (by omega)]
theorem nxP_frm {p : List Int} (r : List Int) (hp : May p.length) : nxP (frm p ++ r) = p := by
  unfold nxP
  rw [nxN_frm r hp]
  have e : frm p ++ r = putL (p.length : Int) 2 ++ (p ++ (putL (sumL (body p)) 4 ++ r)) := by unfold frm body; simp [List.append_assoc]
  rw [e]
  have h2 : 2 = (putL (p.length : Int) 2).length := (length_putL _ 2).symm
  rw [List.drop_append_of_le_length (by omega), List.drop_eq_nil_of_le (by omega), List.nil_append, List.take_left]
end Go.Proofs.YtkmcnhjfnjikaaaGreatDoor
/- What package frame's Put and the document's Frame come to. Conditions: the slices lie in memory and hold bytes, their lengths have room. -/
namespace Go.Proofs.YtkmcnhjfnjikaaaGreatDoor
open Go.RowKit
set_option maxHeartbeats 400000 in
theorem may_yes (n : Int) (w : World) (h : 1 ≤ n ∧ n ≤ 16384) : Calls Tryz.prog 84 #[.int .i64 n] w fun e w' => e = .returned (.bool true) ∧ w = w' := by
  obtain ⟨h1, h2⟩ := h
  have t1 : decide ((1 : Int) ≤ n) = true := decide_eq_true h1
  have t2 : decide (n ≤ (16384 : Int)) = true := decide_eq_true h2
  go_enter Tryz.func84, Tryz.ntmps84
  go_wp2
  all_goals (go_ret; exact ⟨ret_bool (by simp [*]), rfl⟩)
set_option maxHeartbeats 400000 in
theorem may_no (n : Int) (w : World) (h : ¬ (1 ≤ n ∧ n ≤ 16384)) : Calls Tryz.prog 84 #[.int .i64 n] w fun e w' => e = .returned (.bool false) ∧ w = w' := by
  by_cases h1 : 1 ≤ n
  · have h2 : ¬ n ≤ 16384 := fun g => h ⟨h1, g⟩
    have t1 : decide ((1 : Int) ≤ n) = true := decide_eq_true h1
    have t2 : decide (n ≤ (16384 : Int)) = false := decide_eq_false h2
    clear h
    go_enter Tryz.func84, Tryz.ntmps84
    go_wp2
    all_goals (go_ret; exact ⟨ret_bool (by simp [*]), rfl⟩)
  · have t1 : decide ((1 : Int) ≤ n) = false := decide_eq_false h1
    clear h
    go_enter Tryz.func84, Tryz.ntmps84
    go_wp2
    all_goals (go_ret; exact ⟨ret_bool (by simp [*]), rfl⟩)
theorem put2 (A : Option Addr) (n c : Nat) (zs : List Int) (u : Int) (w : World) (hn : zs.length = n) (hz : Lies w A zs) (hc : A = none → c = 0) (ln : n ≤ 199999999999990) :
    Calls Tryz.prog 85 #[.slice A n c, .int .i64 2, .int .u64 u] w (Cloned w (n + 2) (zs ++ putL u 2)) :=
  (put_any A n c zs 2 u w hn hz hc ln).mono fun _ _ ⟨he, ho, hb⟩ => ⟨_, _, he, ho, hb⟩
theorem put4 (A : Option Addr) (n c : Nat) (zs : List Int) (u : Int) (w : World) (hn : zs.length = n) (hz : Lies w A zs) (hc : A = none → c = 0) (ln : n ≤ 199999999999990) :
    Calls Tryz.prog 85 #[.slice A n c, .int .i64 4, .int .u64 u] w (Cloned w (n + 4) (zs ++ putL u 4)) :=
  (put_any A n c zs 4 u w hn hz hc ln).mono fun _ _ ⟨he, ho, hb⟩ => ⟨_, _, he, ho, hb⟩
theorem part_own {w : World} {b k c n : Nat} {A : Option Addr} {xs ys : List Int} (h : w.ownsRow b 5 1 (.slice A k c) k (cellsOf (xs ++ ys))) (hx : xs.length = n) : Lies w (partA A c n) ys := by
  have h1 := (Lies.of_own h).rest (c := c) (by have := (own_len h).2; have := h.1; rw [length_cellsOf] at this; omega) n
  rw [← hx, List.drop_left] at h1
  rw [← hx]; exact h1
set_option maxHeartbeats 1000000 in
theorem fput_any (A : Option Addr) (n c : Nat) (zs : List Int) (B : Option Addr) (m d : Nat) (ps : List Int) (w : World) (hn : zs.length = n) (hz : Lies w A zs) (hc : A = none → c = 0) (ln : n ≤ 199999999900000)
    (hm : ps.length = m) (hp : Lies w B ps) (hd : B = none → d = 0) (op : Octets ps) :
    Calls Tryz.prog 45 #[.slice A n c, .slice B m d] w (Cloned w (putR zs ps).length (putR zs ps)) := by
  by_cases hM : May m
  · have l0 := hM.1
    have l1 := hM.2
    have e1 : putR zs ps = zs ++ frm ps := by unfold putR; rw [hm, if_pos hM]
    have e2 : (putR zs ps).length = n + 2 + m + 4 := by rw [e1, List.length_append, length_frm]; omega
    have hres := hide (show zs ++ body ps ++ putL (sumL (body ps)) 4 = putR zs ps by rw [e1]; unfold frm; rw [List.append_assoc])
    have hob := hide (octets_body op)
    have hlb := hide (show (body ps).length = 2 + m by rw [length_body]; omega)
    have hb := hide (show putL (m : Int) 2 ++ ps = body ps by unfold body; rw [hm])
    have hmay := hide (fun w => may_yes (m : Int) w ⟨by omega, by omega⟩)
    have hl3 := hide (show (zs ++ body ps).length = n + 2 + m by rw [List.length_append, length_body]; omega)
    rw [e2]
    obtain ⟨i0, hi, hz0, hz1, hz2⟩ := info_parts Tryz.info5
    have H := hide (And.intro hz (And.intro hp hd))
    have hc := hide hc
    clear hz hp hM e1 e2 op hd
    go_enter Tryz.func45, Tryz.ntmps45
    go_wp2_with (first
      | (go_at_call 84; (with_reducible refine (hmay.out _).mono ?_); rintro e w1 ⟨rfl, rfl⟩)
      | (go_at_call 85; (with_reducible refine (put2 A n c zs (m : Int) w hn H.out.1 hc.out (by omega)).mono ?_); rintro e w1 ⟨A1, c1, rfl, o1, k1⟩; have o1' := hide o1; have k1' := hide k1; clear o1 k1)
      | (at_builtin; refine wpList_append_lies rfl (.tmp 16) (.tmp 17) 31 rfl w.heap.size 5 i0 _ Tryz.underlying31 hi hz0 hz1 hz2 rfl _ (n + 2) (zs ++ putL (m : Int) 2) rfl o1'.out B m d ps rfl hm H.out.2.2 (H.out.2.1.below k1'.out) (by omega) k1'.out.size ?_))
    intro v2 w2 o2 k2
    rw [hb.out] at o2
    obtain ⟨A2, c2, rfl, hA2⟩ := own_shape o2
    have hle := (own_len o2).2
    have o2' := hide o2
    have hA2 := hide hA2
    have k2' := hide (k1'.out.trans k2)
    clear o2 k2 o1' k1'
    have p1 : partA A2 c2 n = Option.map (fun x => x.add n) A2 := if_neg (by omega)
    have f1 : n ≤ c2 := by omega
    have f2 : n ≤ n + 2 + m := by omega
    have f3 : (n : Int) ≤ (n : Int) + 2 + (m : Int) := by omega
    have e3 : n + 2 + m - n = 2 + m := by omega
    have hs := sumL_bounds hob.out
    have hof := hide (of_any (partA A2 c2 n) (2 + m) (c2 - n) (body ps) w2 hlb.out (part_own o2'.out hn) hob.out (by omega))
    have hpu := hide (put4 A2 (n + 2 + m) c2 (zs ++ body ps) (sumL (body ps)) w2 hl3.out (Lies.of_own o2'.out) hA2.out (by omega))
    change Hid (Calls _ _ _ _ fun e w' => e = .returned (.int .u32 (sumL (body ps))) ∧ w2 = w') at hof
    rw [p1] at hof
    clear p1
    generalize sumL (body ps) = sm at *
    go_wp2_with (first
      | (go_at_call 86; (with_reducible refine hof.out.mono ?_); rintro e w3 ⟨rfl, rfl⟩)
      | (go_at_call 85; (with_reducible refine hpu.out.mono ?_); rintro e w3 ⟨A3, c3, rfl, o3, k3⟩; have o3' := hide o3; have k3' := hide k3; clear o3 k3))
    go_ret
    refine ⟨A3, c3, rfl, ?_, k2'.out.trans (k3'.out.mono k2'.out.size)⟩
    rw [← hres.out]
    exact own_mono o3'.out k2'.out.size
  · have e1 : putR zs ps = zs := by unfold putR; rw [hm, if_neg hM]
    rw [e1, hn]
    have hmay := hide (fun w => may_no (m : Int) w (fun h => hM ⟨by omega, by omega⟩))
    have hcl := hide (clone_any A n c zs w hn hz hc (by omega))
    clear hM e1 hz hc hp hd op
    go_enter Tryz.func45, Tryz.ntmps45
    go_wp2_with (first
      | (go_at_call 84; (with_reducible refine (hmay.out _).mono ?_); rintro e w1 ⟨rfl, rfl⟩)
      | (go_at_call 69; (with_reducible refine hcl.out.mono ?_); rintro e w1 ⟨A1, c1, rfl, o1, k1⟩))
    go_ret
    exact ⟨A1, c1, rfl, o1, k1⟩
end Go.Proofs.YtkmcnhjfnjikaaaGreatDoor
/- append that tells which block is turned; slices that lie in blocks that are not. No condition: nothing here speaks of one function. -/
namespace Go.Proofs.YtkmcnhjfnjikaaaGreatDoor
open Go.RowKit
theorem own_below {w w' : World} {b k n : Nat} {e : TypeId} {v : Value} {xs : List Value} (h : w.ownsRow b e k v n xs) (hb : Below w.heap.size w w') : w'.ownsRow b e k v n xs :=
  h.kept (grown_below hb) (by cases hv : v.ownBlock with
    | none => exact .inl rfl
    | some g => exact .inr (by simp))
theorem own_nil {w : World} {b n k c : Nat} {e : TypeId} {A : Option Addr} {xs : List Value} (h : w.ownsRow b e 1 (.slice A k c) n xs) : A = none → c = 0 := by
  obtain ⟨A', c', he, hA⟩ := own_shape h
  injection he with h1 _ h3
  subst h1 h3
  exact hA
theorem Lies.grown {w w' : World} {row : Option Nat} {A : Option Addr} {zs : List Int} (h : Lies w A zs) (hg : w.grownBy w' row) (hne : ∀ a, A = some a → some a.block ≠ row) : Lies w' A zs := fun hn => by
  obtain ⟨b, off, e, hlt, hc⟩ := h hn
  have hb : some b ≠ row := hne ⟨b, off, none⟩ e
  exact ⟨b, off, e, Nat.lt_of_lt_of_le hlt hg.size, fun k hk => hg.cell (hc k hk) hb⟩
/-- What lies in a block of a call's own, made behind another one's. -/
theorem own_other {w w1 : World} {b k n m c : Nat} {e e' : TypeId} {v : Value} {A : Option Addr} {xs ys : List Value} (h : w.ownsRow b e k v n xs) (g : w1.ownsRow w.heap.size e' 1 (.slice A m c) m ys) : ∀ a, A = some a → some a.block ≠ v.ownBlock := by
  rintro a rfl hv
  have h1 := h.lt a.block hv.symm
  have h2 := g.lt a.block rfl
  omega
theorem own_lt {w : World} {b n m c : Nat} {e : TypeId} {A : Option Addr} {ys : List Value} (g : w.ownsRow b e 1 (.slice A m c) n ys) : ∀ a, A = some a → a.block < w.heap.size := by
  rintro a rfl
  exact (g.lt a.block rfl).2
theorem own_ge {w : World} {b n m c : Nat} {e : TypeId} {A : Option Addr} {ys : List Value} (g : w.ownsRow b e 1 (.slice A m c) n ys) : ∀ a, A = some a → b ≤ a.block := fun a ha => by
  rcases g.2 with ⟨hv, _⟩ | ⟨k, cap, cur, hv, hb, _⟩
  · injection hv with h1; rw [h1] at ha; cases ha
  · injection hv with h1; rw [h1] at ha; injection ha with ha; subst ha; exact hb
theorem own_still {w : World} {v v' : Value} {A : Option Addr} (hne : ∀ a, A = some a → some a.block ≠ v.ownBlock) (hlt : ∀ a, A = some a → a.block < w.heap.size) (h : v'.ownBlock = v.ownBlock ∨ v'.ownBlock = some w.heap.size) : ∀ a, A = some a → some a.block ≠ v'.ownBlock := by
  intro a ha hv
  rcases h with h | h
  · exact hne a ha (hv.trans h)
  · rw [h] at hv
    injection hv with hv
    have := hlt a ha; omega
theorem wpList_append_grown {P : Program} {w : World} {ops : Array Oper} {rest : List Oper} {o : Oper} {a : Act} {Q : Exit → Act → World → Prop} (hgd : o.guard = none) (s x : Operand) (t : TypeId)
    (ho : o.op = .call { callee := .builtin .append, args := #[s, x], argTypes := #[t, t] })
    (base : Nat) (e : TypeId) (i : TypeInfo) (z : Value) (ht : P.underlying t = some (.slice e)) (hi : P.info? e = some i) (hz : i.zero = some z) (hsize : i.size = 1) (hby : i.bytes = 1) (hzs : z.cells.size = 1)
    (v : Value) (n : Nat) (xs : List Int) (hs : a.eval s = v) (hown : w.ownsRow base e 1 v n (cellsOf xs))
    (A : Option Addr) (m c : Nat) (zs : List Int) (hx : a.eval x = .slice A m c) (hm : zs.length = m) (hc : A = none → c = 0) (hl : Lies w A zs) (hb : n + m ≤ 140737488355328) (hbase : base ≤ w.heap.size)
    (h : ∀ v' w', w'.ownsRow base e 1 v' (n + m) (cellsOf (xs ++ zs)) → w.grownBy w' v.ownBlock → (v'.ownBlock = v.ownBlock ∨ v'.ownBlock = some w.heap.size) → wpList P ops Q rest (a.put o.dst v') w') : wpList P ops Q (o :: rest) a w := by
  subst hm
  rcases A with _ | ad
  · have h0 := hl.nil_ rfl
    have hz0 : zs = [] := List.eq_nil_of_length_eq_zero h0
    subst hz0
    obtain rfl := hc rfl
    exact wpList_append_own_none hgd s x t ho base e i 1 ht hi v n (cellsOf xs) hs hown hx (h v w (by simpa using hown) (grown_refl w _) (.inl rfl))
  · refine wpList_append_own_at w hgd s x t ho base e i z 1 1 ht hi hz hsize hby hzs (by omega) v n (cellsOf xs) hs hown ad zs.length c (cellsOf zs) hx (by rw [length_cellsOf]; omega) ?_ cellsOf_one (by unfold maxLen; omega) (by omega) hbase ?_
    · intro j u hj
      obtain ⟨hk, _⟩ := cellsOf_some hj
      obtain ⟨b, off, e', _⟩ := hl (by omega)
      injection e' with e'
      subst e'
      exact Lies.cells hl j u hj
    · intro v' w' h1 h2 _ h4
      exact h v' w' (by rw [cellsOf_append]; exact h1) h2 h4
end Go.Proofs.YtkmcnhjfnjikaaaGreatDoor
/- What the document's Frame comes to. Conditions: the slices lie in memory and hold bytes, their lengths have room. -/
namespace Go.Proofs.YtkmcnhjfnjikaaaGreatDoor
open Go.RowKit
theorem rput2 (u : Int) (w : World) : Calls Tryz.prog 60 #[.slice none 0 0, .int .i64 2, .int .u64 u] w fun e w' => ∃ k, k = 2 ∧ Cloned w k (putL u 2) e w' :=
  (rput_any none 0 0 [] 2 u w rfl Lies.none_ (fun _ => rfl) (by omega)).mono fun _ _ ⟨v, he, ho, hb⟩ => by
    obtain ⟨A', c', rfl, _⟩ := own_shape ho
    exact ⟨2, rfl, A', c', he, ho, hb⟩
theorem rput4 (A : Option Addr) (n c : Nat) (zs : List Int) (u : Int) (w : World) (hn : zs.length = n) (hz : Lies w A zs) (hc : A = none → c = 0) (ln : n ≤ 199999999999990) :
    Calls Tryz.prog 60 #[.slice A n c, .int .i64 4, .int .u64 u] w (Cloned w (n + 4) (zs ++ putL u 4)) :=
  (rput_any A n c zs 4 u w hn hz hc ln).mono fun _ _ ⟨v, he, ho, hb⟩ => by
    obtain ⟨A', c', rfl, _⟩ := own_shape ho
    exact ⟨A', c', he, ho, hb⟩
theorem sum_parts (xs ys : List Int) : crc (crc 0 (nats xs)) (nats ys) = crc 0 (nats (xs ++ ys)) := by
  rw [crc_append]; unfold nats; rw [List.map_append]
set_option maxHeartbeats 1000000 in
theorem rframe_any (A : Option Addr) (n c : Nat) (zs : List Int) (B : Option Addr) (m d : Nat) (ps : List Int) (w : World) (hn : zs.length = n) (hz : Lies w A zs) (hc : A = none → c = 0) (ln : n ≤ 140737488351232) (lnm : n + m ≤ 140737488355300)
    (hm : ps.length = m) (hp : Lies w B ps) (hd : B = none → d = 0) (op : Octets ps) :
    Calls Tryz.prog 28 #[.slice A n c, .slice B m d] w (Cloned w (putR zs ps).length (putR zs ps)) := by
  obtain ⟨i0, hi, hz0, hz1, hz2⟩ := info_parts Tryz.info5
  have hown0 := World.ownsRow_lit (base := w.heap.size) (e := 5) (size := 1) w #[] 0 (Nat.le_refl _) (by unfold maxLen; omega) rfl
  have hz' := hide (hz.alloc (.cells #[] 5))
  by_cases hM : May m
  · have l0 := hM.1
    have l1 := hM.2
    have e1 : putR zs ps = zs ++ frm ps := by unfold putR; rw [hm, if_pos hM]
    have e2 : (putR zs ps).length = n + 2 + m + 4 := by rw [e1, List.length_append, length_frm]; omega
    have hres := hide (show zs ++ body ps ++ putL (sumL (body ps)) 4 = putR zs ps by rw [e1]; unfold frm; rw [List.append_assoc])
    have hb := hide (show putL (m : Int) 2 ++ ps = body ps by unfold body; rw [hm])
    have hl3 := hide (show (zs ++ body ps).length = n + 2 + m by rw [List.length_append, length_body]; omega)
    have hs := sumL_bounds (octets_body op)
    have hsm := hide (show ((crc (crc 0 (nats (putL (m : Int) 2))) (nats ps) : Nat) : Int) = sumL (body ps) by rw [sum_parts, hb.out]; rfl)
    have h2 := hide (crc_lt (c := 0) (by omega) (bytes_nats (octets_putL (m : Int) 2)))
    have op := hide op
    rw [e2]
    have t1 : ((m : Int) == 0) = false := by rw [beq_eq_false_iff_ne]; omega
    have t2 : decide ((16384 : Int) < (m : Int)) = false := decide_eq_false (by omega)
    have H := hide (And.intro hp hd)
    have hc := hide hc
    clear hz hp hM e1 e2 hd
    go_enter Tryz.func28, Tryz.ntmps28
    go_wp2_with (at_builtin; refine wpList_append_lies rfl (.tmp 7) (.tmp 8) 31 rfl w.heap.size 5 i0 _ Tryz.underlying31 hi hz0 hz1 hz2 rfl _ 0 [] rfl hown0 A n c zs rfl hn hc.out hz'.out (by omega) (by simp) ?_)
    intro v1 w1 o1 k1
    have o1' := hide o1
    have k1' := hide (((Below.refl w.heap.size w).alloc (Nat.le_refl _) _).trans k1)
    clear o1 k1 hown0 hz'
    go_wp2_with (first
      | (go_at_call 60; (with_reducible refine (rput2 (m : Int) _).mono ?_); rintro e w2 ⟨k2, hk2', A2, c2, rfl, o2, q2⟩; have hk2 := hide hk2'; clear hk2'; have hne := hide (own_other o1'.out o2); have hlt := hide (own_lt o2); have o1b := hide (own_below o1'.out q2); have o2' := hide o2; have q2' := hide (k1'.out.trans (q2.mono k1'.out.size)); have hl2 := hide (Lies.of_own o2); clear o2 q2 o1' k1')
      | (at_builtin; refine wpList_append_grown rfl (.tmp 23) (.tmp 24) 31 rfl w.heap.size 5 i0 _ Tryz.underlying31 hi hz0 hz1 hz2 rfl _ n zs rfl o1b.out A2 k2 c2 (putL (m : Int) 2) rfl (by rw [hk2.out]; exact length_putL _ 2) (own_nil o2'.out) hl2.out (by have := hk2.out; omega) q2'.out.size ?_))
    intro v3 w3 o3 q3 at3
    have hne3 := hide (own_still hne.out hlt.out at3)
    have hlt3 := hide (fun a ha => Nat.lt_of_lt_of_le (hlt.out a ha) q3.size)
    have o3' := hide o3
    have hl3b := hide (hl2.out.grown q3 hne.out)
    have q3' := hide (q2'.out.grown q3 q2'.out.size (fun k hk => (o1b.out.lt k hk).1))
    have h2n := hide (own_nil o2'.out)
    clear o3 q3 at3 hl2 hne hlt o1b o2' q2'
    go_wp2_with (at_builtin; refine wpList_append_grown rfl (.tmp 25) (.tmp 26) 31 rfl w.heap.size 5 i0 _ Tryz.underlying31 hi hz0 hz1 hz2 rfl _ (n + k2) (zs ++ putL (m : Int) 2) rfl o3'.out B m d ps rfl hm H.out.2 (H.out.1.below (q3'.out.mono (Nat.le_refl _))) (by have := hk2.out; omega) q3'.out.size ?_)
    intro v4 w4 o4 q4 _
    rw [hb.out] at o4
    have hl4 := hide (hl3b.out.grown q4 hne3.out)
    have q4' := hide (q3'.out.grown q4 q3'.out.size (fun k hk => (o3'.out.lt k hk).1))
    have hB4 := hide (H.out.1.below q4'.out)
    obtain ⟨A4, c4, rfl, hA4⟩ := own_shape o4
    have hk2v := hk2.out
    have e4 : n + k2 + m = n + 2 + m := by omega
    rw [e4] at o4 ⊢
    have o4' := hide o4
    have hA4 := hide hA4
    have hof := hide (ron_zero A2 k2 c2 (putL (m : Int) 2) w4 (by rw [length_putL]; omega) hl4.out (octets_putL _ 2) (by omega))
    have hog := hide (ron_any B m d ps _ w4 h2.out hm hB4.out op.out (by omega))
    rw [hsm.out] at hog
    have hpu := hide (rput4 A4 (n + 2 + m) c4 (zs ++ body ps) (sumL (body ps)) w4 hl3.out (Lies.of_own o4'.out) hA4.out (by omega))
    clear o4 q4 hl3b q3' o3' hl4 hB4 hne3 hlt3 hk2v h2n hsm e4
    have h2' := h2.out
    clear h2
    generalize crc 0 (nats (putL (m : Int) 2)) = C at *
    generalize sumL (body ps) = sm at *
    go_wp2_with (first
      | (go_at_call 61; (with_reducible refine hof.out.mono ?_); rintro e w5 ⟨rfl, rfl⟩)
      | (go_at_call 61; (with_reducible refine hog.out.mono ?_); rintro e w5 ⟨rfl, rfl⟩)
      | (go_at_call 60; (with_reducible refine hpu.out.mono ?_); rintro e w5 ⟨A5, c5, rfl, o5, k5⟩; have o5' := hide o5; have k5' := hide k5; clear o5 k5))
    go_ret
    refine ⟨A5, c5, rfl, ?_, q4'.out.trans (k5'.out.mono q4'.out.size)⟩
    rw [← hres.out]
    exact own_mono o5'.out q4'.out.size
  · have e1 : putR zs ps = zs := by unfold putR; rw [hm, if_neg hM]
    rw [e1, hn]
    have hc := hide hc
    by_cases h0 : m = 0
    · subst h0
      clear hM e1 hz hp hd op
      go_enter Tryz.func28, Tryz.ntmps28
      go_wp2_with (at_builtin; refine wpList_append_lies rfl (.tmp 7) (.tmp 8) 31 rfl w.heap.size 5 i0 _ Tryz.underlying31 hi hz0 hz1 hz2 rfl _ 0 [] rfl hown0 A n c zs rfl hn hc.out hz'.out (by omega) (by simp) ?_)
      intro v1 w1 o1 k1
      obtain ⟨A1, c1, rfl, _⟩ := own_shape o1
      have o1' := hide o1
      have k1' := hide (((Below.refl w.heap.size w).alloc (Nat.le_refl _) _).trans k1)
      clear o1 k1 hown0 hz'
      go_wp2
      go_ret
      exact ⟨A1, c1, rfl, o1'.out, k1'.out⟩
    · have t1 : ((m : Int) == 0) = false := by rw [beq_eq_false_iff_ne]; omega
      have t2 : decide ((16384 : Int) < (m : Int)) = true := decide_eq_true (by unfold May at hM; omega)
      clear hM e1 hz hp hd op h0
      go_enter Tryz.func28, Tryz.ntmps28
      go_wp2_with (at_builtin; refine wpList_append_lies rfl (.tmp 7) (.tmp 8) 31 rfl w.heap.size 5 i0 _ Tryz.underlying31 hi hz0 hz1 hz2 rfl _ 0 [] rfl hown0 A n c zs rfl hn hc.out hz'.out (by omega) (by simp) ?_)
      intro v1 w1 o1 k1
      obtain ⟨A1, c1, rfl, _⟩ := own_shape o1
      have o1' := hide o1
      have k1' := hide (((Below.refl w.heap.size w).alloc (Nat.le_refl _) _).trans k1)
      clear o1 k1 hown0 hz'
      go_wp2
      go_ret
      exact ⟨A1, c1, rfl, o1'.out, k1'.out⟩
end Go.Proofs.YtkmcnhjfnjikaaaGreatDoor
/- What package frame's Next comes to. Conditions: the slice lies in memory and holds bytes, its length has room. -/
namespace Go.Proofs.YtkmcnhjfnjikaaaGreatDoor
open Go.RowKit
/-- What Next answers. -/
def Nexted (w : World) (zs : List Int) (i : Int) (e : Ending) (w' : World) : Prop :=
  ∃ A' c', e = .returned (.tuple #[.slice A' (nextP zs i).length c', .int .i64 (nextU zs i), .int .i64 (nextE zs i)]) ∧
    w'.ownsRow w.heap.size 5 1 (.slice A' (nextP zs i).length c') (nextP zs i).length (cellsOf (nextP zs i)) ∧ Below w.heap.size w w'
theorem Nexted.wrong {w : World} {zs : List Int} {i : Int} {E : Int} (h : nextE zs i = E) (hE : E ≠ 0) : Nexted w zs i (.returned (.tuple #[.slice none 0 0, .int .i64 0, .int .i64 E])) w := by
  have h1 : nextP zs i = [] := by unfold nextP; rw [h, if_neg hE]
  have h2 : nextU zs i = 0 := by unfold nextU; rw [h, if_neg hE]
  unfold Nexted
  rw [h1, h2, h]
  exact ⟨none, 0, rfl, World.ownsRow_nil _ _ _ _, Below.refl _ _⟩
section
variable {A : Option Addr} {n c : Nat} {zs : List Int} {w : World}
theorem get_bad {i m : Int} (hn : zs.length = n) (hz : Lies w A zs) (ho : Octets zs) (ln : n ≤ 199999999999990) (h : i < 0 ∨ (n : Int) < i) :
    Calls Tryz.prog 151 #[.slice A n c, .int .i64 i, .int .i64 m] w fun e w' => e = .returned (.tuple #[.int .u64 0, .int .i64 1]) ∧ w = w' := by
  have hb : GetBad zs i m := by unfold GetBad; rw [hn]; omega
  have h0 := get_any A n c zs i m w hn hz ho (by omega)
  unfold getV getE at h0
  rwa [if_pos hb, if_pos hb] at h0
theorem get_short {I m : Nat} (M : Int) (hM : M = m) (hn : zs.length = n) (hz : Lies w A zs) (ho : Octets zs) (ln : n ≤ 199999999999990) (hm : 1 ≤ m ∧ m ≤ 8) (hI : I ≤ n) (h : n - I < m) :
    Calls Tryz.prog 151 #[.slice A n c, .int .i64 (I : Int), .int .i64 M] w fun e w' => e = .returned (.tuple #[.int .u64 0, .int .i64 3]) ∧ w = w' := by
  subst hM
  have hb : ¬ GetBad zs (I : Int) (m : Int) := by unfold GetBad; rw [hn]; omega
  have h1 : (zs.length : Int) - (I : Int) < (m : Int) := by omega
  have h0 := get_any A n c zs I m w hn hz ho (by omega)
  unfold getV getE at h0
  rwa [if_neg hb, if_neg hb, if_pos h1, if_pos h1] at h0
theorem get_ok {I m : Nat} (J M : Int) (hJ : J = I) (hM : M = m) (hn : zs.length = n) (hz : Lies w A zs) (ho : Octets zs) (ln : n ≤ 199999999999990) (hm : 1 ≤ m ∧ m ≤ 8) (h : I + m ≤ n) :
    Calls Tryz.prog 151 #[.slice A n c, .int .i64 J, .int .i64 M] w fun e w' => e = .returned (.tuple #[.int .u64 (le zs I m), .int .i64 0]) ∧ w = w' := by
  subst hM hJ
  have hb : ¬ GetBad zs (I : Int) (m : Int) := by unfold GetBad; rw [hn]; omega
  have h1 : ¬ (zs.length : Int) - (I : Int) < (m : Int) := by omega
  have h0 := get_any A n c zs I m w hn hz ho (by omega)
  unfold getV getE at h0
  rwa [if_neg hb, if_neg hb, if_neg h1, if_neg h1, Int.toNat_natCast, Int.toNat_natCast] at h0
end
theorem nextE_at {zs : List Int} {I : Nat} (h : I ≤ zs.length) : nextE zs (I : Int) = nxE (zs.drop I) := by
  unfold nextE; rw [if_neg (by omega), Int.toNat_natCast]
theorem nxN_at (zs : List Int) (I : Nat) : nxN (zs.drop I) = (le zs I 2).toNat := by unfold nxN; rw [le_drop]; rfl
set_option maxHeartbeats 1000000 in
theorem fnext_any (A : Option Addr) (n c : Nat) (zs : List Int) (i : Int) (w : World) (hn : zs.length = n) (hz : Lies w A zs) (hc : n ≤ c) (ho : Octets zs) (ln : n ≤ 199999999900000) (hi : -9223372036854775808 ≤ i ∧ i ≤ 9223372036854775807) :
    Calls Tryz.prog 127 #[.slice A n c, .int .i64 i] w (Nexted w zs i) := by
  by_cases hbad : i < 0 ∨ (n : Int) < i
  · have hE : nextE zs i = 1 := by unfold nextE; rw [hn, if_pos hbad]
    have hg := hide (get_bad (c := c) (m := 2) hn hz ho (by omega) hbad)
    clear hz ho hbad
    go_enter Tryz.func127, Tryz.ntmps127
    go_wp2_with (go_at_call 151; (with_reducible refine hg.out.mono ?_); rintro e w1 ⟨rfl, rfl⟩)
    go_ret3
    exact Nexted.wrong hE (by decide)
  obtain ⟨I, rfl⟩ := Int.eq_ofNat_of_zero_le (show 0 ≤ i by omega)
  have hI : I ≤ n := by omega
  have hEI := nextE_at (zs := zs) (I := I) (by omega)
  have hld : (zs.drop I).length = n - I := by rw [List.length_drop, hn]
  by_cases h2 : n - I < 2
  · have hE : nextE zs I = 3 := by rw [hEI]; unfold nxE; rw [hld, if_pos h2]
    have hg := hide (get_short (c := c) (m := 2) 2 rfl hn hz ho (by omega) (by omega) hI h2)
    clear hz ho hbad
    go_enter Tryz.func127, Tryz.ntmps127
    go_wp2_with (go_at_call 151; (with_reducible refine hg.out.mono ?_); rintro e w1 ⟨rfl, rfl⟩)
    go_ret3
    exact Nexted.wrong hE (by decide)
  have hg := get_ok (c := c) (m := 2) (I := I) I 2 rfl rfl hn hz ho (by omega) (by omega) (by omega)
  obtain ⟨N, hN⟩ := Int.eq_ofNat_of_zero_le (le2_bounds ho I).1
  have hN2 : N ≤ 65535 := by have := (le2_bounds ho I).2; omega
  have hNI : nxN (zs.drop I) = N := by rw [nxN_at, hN]; rfl
  rw [hN] at hg
  have hg := hide hg
  by_cases hM : May N
  · have l0 := hM.1
    have l1 := hM.2
    have hmay := hide (fun w => may_yes (N : Int) w ⟨by omega, by omega⟩)
    by_cases h3 : n < I + 2 + N + 4
    · have hE : nextE zs I = 3 := by rw [hEI]; unfold nxE; rw [hld, if_neg h2, hNI, if_neg (fun g => g hM), if_pos (by omega)]
      have t1 : decide ((n : Int) < (I : Int) + 2 + (N : Int) + 4) = true := decide_eq_true (by omega)
      clear hz ho hbad hM hN h3
      go_enter Tryz.func127, Tryz.ntmps127
      go_wp2_with (first
        | (go_at_call 151; (with_reducible refine hg.out.mono ?_); rintro e w1 ⟨rfl, rfl⟩)
        | (go_at_call 84; (with_reducible refine (hmay.out _).mono ?_); rintro e w1 ⟨rfl, rfl⟩))
      go_ret3
      exact Nexted.wrong hE (by decide)
    · have t1 : decide ((n : Int) < (I : Int) + 2 + (N : Int) + 4) = false := decide_eq_false (by omega)
      have hle4 := le4_bounds ho (I + 2 + N)
      have hg4 := get_ok (c := c) (m := 4) (I := I + 2 + N) ((I : Int) + 2 + (N : Int)) 4 (by omega) rfl hn hz ho (by omega) (by omega) (by omega)
      have hp1 := hz.part (c := c) (by omega) I (2 + N)
      have ob1 : Octets ((zs.drop I).take (2 + N)) := fun z h => ho z (List.mem_of_mem_drop (List.mem_of_mem_take h))
      have hs := sumL_bounds ob1
      have hof := of_any _ (2 + N) (c - I) _ w (by rw [List.length_take]; omega) hp1 ob1 (by omega)
      have hsE : ∀ v, sumL ((zs.drop I).take (2 + N)) = v → ((crc 0 (nats ((zs.drop I).take (2 + N))) : Nat) : Int) = v := fun v h => h
      have hq : nextE zs I = if sumL ((zs.drop I).take (2 + N)) ≠ le zs (I + 2 + N) 4 then 6 else 0 := by
        rw [hEI]; unfold nxE; rw [hld, if_neg h2, hNI, if_neg (fun g => g hM), if_neg (by omega), le_drop, Nat.add_assoc]
      have e3 : I + 2 + N - I = 2 + N := by omega
      have a1 : partA A c I = Option.map (fun x => x.add I) A := if_neg (by omega)
      rw [a1] at hof
      have hof : Calls Tryz.prog 86 #[.slice (Option.map (fun x => x.add I) A) (2 + N) (c - I)] w fun e w' => e = .returned (.int .u32 (sumL ((zs.drop I).take (2 + N)))) ∧ w = w' := hof
      have l2 : I + 2 + N + 4 ≤ n := by omega
      have hg4 := hide hg4
      by_cases hsum : sumL ((zs.drop I).take (2 + N)) = le zs (I + 2 + N) 4
      · have hE : nextE zs I = 0 := by rw [hq, if_neg (fun g => g hsum)]
        have hP : nextP zs I = (zs.drop (I + 2)).take N := by unfold nextP nxP; rw [if_pos hE, Int.toNat_natCast, hNI, List.drop_drop]
        have hT : nextU zs I = (I : Int) + 2 + (N : Int) + 4 := by unfold nextU; rw [if_pos hE, Int.toNat_natCast, hNI]; omega
        have hPl : ((zs.drop (I + 2)).take N).length = N := by rw [List.length_take, List.length_drop]; omega
        have hcl := clone_any (partA A c (I + 2)) N (c - (I + 2)) ((zs.drop (I + 2)).take N) w hPl (hz.part (c := c) (by omega) (I + 2) N) (fun h => by
          have a2 : partA A c (I + 2) = Option.map (fun x => x.add (I + 2)) A := if_neg (by omega)
          obtain ⟨b, off, e, _⟩ := hz.at_ (k := 0) (by omega)
          rw [a2, e] at h
          cases h) (by omega)
        have a2 : partA A c (I + 2) = Option.map (fun x => { block := x.block, off := x.off + (I + 1 + 1) }) A := (if_neg (by omega)).trans rfl
        rw [a2] at hcl
        unfold Nexted
        rw [hP, hT, hE, hPl]
        generalize sumL ((zs.drop I).take (2 + N)) = S at *
        generalize le zs (I + 2 + N) 4 = V at *
        generalize (zs.drop (I + 2)).take N = ys at *
        have t2 : (V != S) = false := by rw [hsum]; simp
        have hof := hide hof
        have hcl := hide hcl
        have e4 : I + 2 + N - (I + 2) = N := by omega
        clear hz ho hbad hM hN h3 hq hsum a1 a2 hp1 ob1 hsE hP hT hE
        go_enter Tryz.func127, Tryz.ntmps127
        go_wp2_with (first
          | (go_at_call 151; (with_reducible refine hg.out.mono ?_); rintro e w1 ⟨rfl, rfl⟩)
          | (go_at_call 151; (with_reducible refine hg4.out.mono ?_); rintro e w1 ⟨rfl, rfl⟩)
          | (go_at_call 86; (with_reducible refine hof.out.mono ?_); rintro e w1 ⟨rfl, rfl⟩)
          | (go_at_call 69; (with_reducible refine hcl.out.mono ?_); rintro e w1 ⟨A1, c1, rfl, o1, k1⟩; have o1 := hide o1; have k1 := hide k1)
          | (go_at_call 84; (with_reducible refine (hmay.out _).mono ?_); rintro e w1 ⟨rfl, rfl⟩))
        go_ret3
        exact ⟨A1, c1, rfl, o1.out, k1.out⟩
      · have hE : nextE zs I = 6 := by rw [hq, if_pos hsum]
        generalize sumL ((zs.drop I).take (2 + N)) = S at *
        generalize le zs (I + 2 + N) 4 = V at *
        have t2 : (V != S) = true := by simp only [bne_iff_ne, ne_eq]; exact fun g => hsum g.symm
        have hof := hide hof
        clear hz ho hbad hM hN h3 hq hsum a1 hp1 ob1 hsE
        go_enter Tryz.func127, Tryz.ntmps127
        go_wp2_with (first
          | (go_at_call 151; (with_reducible refine hg.out.mono ?_); rintro e w1 ⟨rfl, rfl⟩)
          | (go_at_call 151; (with_reducible refine hg4.out.mono ?_); rintro e w1 ⟨rfl, rfl⟩)
          | (go_at_call 86; (with_reducible refine hof.out.mono ?_); rintro e w1 ⟨rfl, rfl⟩)
          | (go_at_call 84; (with_reducible refine (hmay.out _).mono ?_); rintro e w1 ⟨rfl, rfl⟩))
        go_ret3
        exact Nexted.wrong hE (by decide)
  · have hE : nextE zs I = 4 := by rw [hEI]; unfold nxE; rw [hld, if_neg h2, hNI, if_pos hM]
    have hmay := hide (fun w => may_no (N : Int) w (fun h => hM ⟨by omega, by omega⟩))
    clear hz ho hbad hM hN
    go_enter Tryz.func127, Tryz.ntmps127
    go_wp2_with (first
      | (go_at_call 151; (with_reducible refine hg.out.mono ?_); rintro e w1 ⟨rfl, rfl⟩)
      | (go_at_call 84; (with_reducible refine (hmay.out _).mono ?_); rintro e w1 ⟨rfl, rfl⟩))
    go_ret3
    exact Nexted.wrong hE (by decide)
end Go.Proofs.YtkmcnhjfnjikaaaGreatDoor
/- What the document's Next comes to. Conditions: the slice lies in memory and holds bytes, its length has room. -/
namespace Go.Proofs.YtkmcnhjfnjikaaaGreatDoor
open Go.RowKit
theorem rget_ok {A : Option Addr} {n c : Nat} {zs : List Int} {w : World} {I m : Nat} (J M : Int) (hJ : J = I) (hM : M = m) (hn : zs.length = n) (hz : Lies w A zs) (ho : Octets zs) (ln : n ≤ 199999999999990) (hm : 1 ≤ m ∧ m ≤ 8) (h : I + m ≤ n) :
    Calls Tryz.prog 133 #[.slice A n c, .int .i64 J, .int .i64 M] w fun e w' => e = .returned (.tuple #[.int .u64 (le zs I m), .int .i64 0]) ∧ w = w' := by
  subst hM hJ
  have hb : ¬ GetBad zs (I : Int) (m : Int) := by unfold GetBad; rw [hn]; omega
  have h1 : ¬ (zs.length : Int) - (I : Int) < (m : Int) := by omega
  have h0 := rget_any A n c zs I m w hn hz ho (by omega)
  unfold getV getE at h0
  rwa [if_neg hb, if_neg hb, if_neg h1, if_neg h1, Int.toNat_natCast, Int.toNat_natCast] at h0
set_option maxRecDepth 100000 in
set_option maxHeartbeats 1000000 in
theorem rnext_any (A : Option Addr) (n c : Nat) (zs : List Int) (i : Int) (w : World) (hn : zs.length = n) (hz : Lies w A zs) (hc : n ≤ c) (ho : Octets zs) (ln : n ≤ 199999999900000) (hi : -9223372036854775808 ≤ i ∧ i ≤ 9223372036854775807) :
    Calls Tryz.prog 109 #[.slice A n c, .int .i64 i] w (Nexted w zs i) := by
  by_cases hi0 : i < 0
  · have hE : nextE zs i = 1 := by unfold nextE; rw [if_pos (.inl hi0)]
    have t1 : decide (i < 0) = true := decide_eq_true hi0
    clear hz ho
    go_enter Tryz.func109, Tryz.ntmps109
    go_wp2
    go_ret3
    exact Nexted.wrong hE (by decide)
  by_cases hi1 : (n : Int) < i
  · have hE : nextE zs i = 1 := by unfold nextE; rw [hn, if_pos (.inr hi1)]
    have t1 : decide (i < 0) = false := decide_eq_false hi0
    have t2 : decide ((n : Int) < i) = true := decide_eq_true hi1
    clear hz ho
    go_enter Tryz.func109, Tryz.ntmps109
    go_wp2
    go_ret3
    exact Nexted.wrong hE (by decide)
  obtain ⟨I, rfl⟩ := Int.eq_ofNat_of_zero_le (show 0 ≤ i by omega)
  have hI : I ≤ n := by omega
  have hEI := nextE_at (zs := zs) (I := I) (by omega)
  have hld : (zs.drop I).length = n - I := by rw [List.length_drop, hn]
  have t1 : decide ((I : Int) < 0) = false := decide_eq_false hi0
  have t2 : decide ((n : Int) < (I : Int)) = false := decide_eq_false hi1
  clear hi0 hi1
  by_cases h2 : n - I < 2
  · have hE : nextE zs I = 3 := by rw [hEI]; unfold nxE; rw [hld, if_pos h2]
    have t3 : decide ((n : Int) - (I : Int) < 2) = true := decide_eq_true (by omega)
    clear hz ho
    go_enter Tryz.func109, Tryz.ntmps109
    go_wp2
    go_ret3
    exact Nexted.wrong hE (by decide)
  have t3 : decide ((n : Int) - (I : Int) < 2) = false := decide_eq_false (by omega)
  have hg := rget_ok (c := c) (m := 2) (I := I) I 2 rfl rfl hn hz ho (by omega) (by omega) (by omega)
  obtain ⟨N, hN⟩ := Int.eq_ofNat_of_zero_le (le2_bounds ho I).1
  have hN2 : N ≤ 65535 := by have := (le2_bounds ho I).2; omega
  have hNI : nxN (zs.drop I) = N := by rw [nxN_at, hN]; rfl
  rw [hN] at hg
  have hg := hide hg
  by_cases hM : May N
  · have l0 := hM.1
    have l1 := hM.2
    have t4 : ((N : Int) == 0) = false := by rw [beq_eq_false_iff_ne]; omega
    have t5 : decide ((16384 : Int) < (N : Int)) = false := decide_eq_false (by omega)
    by_cases h3 : n < I + 2 + N + 4
    · have hE : nextE zs I = 3 := by rw [hEI]; unfold nxE; rw [hld, if_neg h2, hNI, if_neg (fun g => g hM), if_pos (by omega)]
      have t6 : decide ((n : Int) - (I : Int) < (N : Int) + 6) = true := decide_eq_true (by omega)
      clear hz ho hM hN h3
      go_enter Tryz.func109, Tryz.ntmps109
      go_wp2_with (first
        | (go_at_call 133; (with_reducible refine hg.out.mono ?_); rintro e w1 ⟨rfl, rfl⟩))
      go_ret3
      exact Nexted.wrong hE (by decide)
    · have t6 : decide ((n : Int) - (I : Int) < (N : Int) + 6) = false := decide_eq_false (by omega)
      have hle4 := le4_bounds ho (I + 2 + N)
      have hg4 := rget_ok (c := c) (m := 4) (I := I + 2 + N) ((I : Int) + 2 + (N : Int)) 4 (by omega) rfl hn hz ho (by omega) (by omega) (by omega)
      have hp1 := hz.part (c := c) (by omega) I (2 + N)
      have ob1 : Octets ((zs.drop I).take (2 + N)) := fun z h => ho z (List.mem_of_mem_drop (List.mem_of_mem_take h))
      have hs := sumL_bounds ob1
      have hof := ron_zero _ (2 + N) (c - I) _ w (by rw [List.length_take]; omega) hp1 ob1 (by omega)
      have hq : nextE zs I = if sumL ((zs.drop I).take (2 + N)) ≠ le zs (I + 2 + N) 4 then 6 else 0 := by
        rw [hEI]; unfold nxE; rw [hld, if_neg h2, hNI, if_neg (fun g => g hM), if_neg (by omega), le_drop, Nat.add_assoc]
      have e3 : I + 2 + N - I = 2 + N := by omega
      have a1 : partA A c I = Option.map (fun x => x.add I) A := if_neg (by omega)
      rw [a1] at hof
      have hof : Calls Tryz.prog 61 #[.int .u32 0, .slice (Option.map (fun x => x.add I) A) (2 + N) (c - I)] w fun e w' => e = .returned (.int .u32 (sumL ((zs.drop I).take (2 + N)))) ∧ w = w' := hof
      have l2 : I + 2 + N + 4 ≤ n := by omega
      have hg4 := hide hg4
      by_cases hsum : sumL ((zs.drop I).take (2 + N)) = le zs (I + 2 + N) 4
      · have hE : nextE zs I = 0 := by rw [hq, if_neg (fun g => g hsum)]
        have hP : nextP zs I = (zs.drop (I + 2)).take N := by unfold nextP nxP; rw [if_pos hE, Int.toNat_natCast, hNI, List.drop_drop]
        have hT : nextU zs I = (I : Int) + 6 + (N : Int) := by unfold nextU; rw [if_pos hE, Int.toNat_natCast, hNI]; omega
        have hPl : ((zs.drop (I + 2)).take N).length = N := by rw [List.length_take, List.length_drop]; omega
        have hlp := hz.part (c := c) (by omega) (I + 2) N
        have hnn : partA A c (I + 2) = none → c - (I + 2) = 0 := (fun h => by
          have a2 : partA A c (I + 2) = Option.map (fun x => x.add (I + 2)) A := if_neg (by omega)
          obtain ⟨b, off, e, _⟩ := hz.at_ (k := 0) (by omega)
          rw [a2, e] at h
          cases h)
        have a2 : partA A c (I + 2) = Option.map (fun x => { block := x.block, off := x.off + (I + 1 + 1) }) A := (if_neg (by omega)).trans rfl
        rw [a2] at hlp hnn
        unfold Nexted
        rw [hP, hT, hE, hPl]
        generalize sumL ((zs.drop I).take (2 + N)) = S at *
        generalize le zs (I + 2 + N) 4 = V at *
        generalize (zs.drop (I + 2)).take N = ys at *
        have t7 : (S != V) = false := by rw [hsum]; simp
        have hof := hide hof
        obtain ⟨i0, hi, hz0, hz1, hz2⟩ := info_parts Tryz.info5
        have hown0 := World.ownsRow_lit (base := w.heap.size) (e := 5) (size := 1) w #[] 0 (Nat.le_refl _) (by unfold maxLen; omega) rfl
        have hz' := hide (hlp.alloc (.cells #[] 5))
        have hnn := hide hnn
        have e4 : I + 2 + N - (I + 2) = N := by omega
        clear hz ho hM hN h3 hq hsum a1 a2 hp1 ob1 hP hT hE hlp
        go_enter Tryz.func109, Tryz.ntmps109
        go_wp2_with (first
          | (go_at_call 133; (with_reducible refine hg.out.mono ?_); rintro e w1 ⟨rfl, rfl⟩)
          | (go_at_call 133; (with_reducible refine hg4.out.mono ?_); rintro e w1 ⟨rfl, rfl⟩)
          | (go_at_call 61; (with_reducible refine hof.out.mono ?_); rintro e w1 ⟨rfl, rfl⟩)
          | (at_builtin; refine wpList_append_lies rfl (.tmp 66) (.tmp 74) 31 rfl w.heap.size 5 i0 _ Tryz.underlying31 hi hz0 hz1 hz2 rfl _ 0 [] rfl hown0 _ (I + 2 + N - (I + 2)) (c - (I + 2)) ys rfl (by omega) hnn.out hz'.out (by omega) (by simp) ?_))
        intro v1 w1 o1 k1
        try rw [e4] at o1
        obtain ⟨A1, c1, rfl, _⟩ := own_shape o1
        have o1' := hide o1
        have k1' := hide (((Below.refl w.heap.size w).alloc (Nat.le_refl _) _).trans k1)
        clear o1 k1 hown0 hz'
        go_wp2
        go_ret3
        exact ⟨A1, c1, rfl, o1'.out, k1'.out⟩
      · have hE : nextE zs I = 6 := by rw [hq, if_pos hsum]
        generalize sumL ((zs.drop I).take (2 + N)) = S at *
        generalize le zs (I + 2 + N) 4 = V at *
        have t7 : (S != V) = true := by simp only [bne_iff_ne, ne_eq]; exact hsum
        have hof := hide hof
        clear hz ho hM hN h3 hq hsum a1 hp1 ob1
        go_enter Tryz.func109, Tryz.ntmps109
        go_wp2_with (first
          | (go_at_call 133; (with_reducible refine hg.out.mono ?_); rintro e w1 ⟨rfl, rfl⟩)
          | (go_at_call 133; (with_reducible refine hg4.out.mono ?_); rintro e w1 ⟨rfl, rfl⟩)
          | (go_at_call 61; (with_reducible refine hof.out.mono ?_); rintro e w1 ⟨rfl, rfl⟩))
        go_ret3
        exact Nexted.wrong hE (by decide)
  · have hE : nextE zs I = 4 := by rw [hEI]; unfold nxE; rw [hld, if_neg h2, hNI, if_pos hM]
    by_cases h0 : N = 0
    · subst h0
      clear hz ho hM hN
      go_enter Tryz.func109, Tryz.ntmps109
      go_wp2_with (first
        | (go_at_call 133; (with_reducible refine hg.out.mono ?_); rintro e w1 ⟨rfl, rfl⟩))
      go_ret3
      exact Nexted.wrong hE (by decide)
    · have t4 : ((N : Int) == 0) = false := by rw [beq_eq_false_iff_ne]; omega
      have t5 : decide ((16384 : Int) < (N : Int)) = true := decide_eq_true (by unfold May at hM; omega)
      clear hz ho hM hN h0
      go_enter Tryz.func109, Tryz.ntmps109
      go_wp2_with (first
        | (go_at_call 133; (with_reducible refine hg.out.mono ?_); rintro e w1 ⟨rfl, rfl⟩))
      go_ret3
      exact Nexted.wrong hE (by decide)
end Go.Proofs.YtkmcnhjfnjikaaaGreatDoor
