/- Segments' names in plain words: what bytes name a segment, and back. No condition: nothing here speaks of a program. -/
import Derived.Test.YtkmcnhjfnjikaaaGreatDoorPure
import Derived.Lib.ItoaNum
import Derived.Lib.Bytealg
import Derived.Lib.Strings
import Derived.Test.YtkmcnhjfnjikaaaGreatDoorKsce
import Derived.Test.YtkmcnhjfnjikaaaGreatDoorKpre
import Derived.Test.YtkmcnhjfnjikaaaGreatDoorKcro
namespace Go.Proofs.YtkmcnhjfnjikaaaGreatDoor
/-- A number below 100 as digits. -/
def dgt (n : Nat) : List UInt8 := if n < 10 then [UInt8.ofNat (48 + n)] else [UInt8.ofNat (48 + n / 10), UInt8.ofNat (48 + n % 10)]
theorem dec_dgt {n : Nat} (h : n < 100) : Lib.decDigits n = dgt n := by
  unfold dgt
  rw [Lib.decDigits]
  split
  · rfl
  · rw [Lib.decDigits, dif_pos (by omega)]; rfl
def pre4 : List UInt8 := [108, 111, 103, 46]
def segN (g k : Nat) : ByteArray := ⟨(pre4 ++ (dgt g ++ (46 :: dgt k))).toArray⟩
theorem segN_list (g k : Nat) : (segN g k).data.toList = pre4 ++ (dgt g ++ (46 :: dgt k)) := by unfold segN; simp
theorem dgt_len (n : Nat) : 1 ≤ (dgt n).length ∧ (dgt n).length ≤ 2 := by unfold dgt; split <;> simp
theorem segN_size (g k : Nat) : 7 ≤ (segN g k).size ∧ (segN g k).size ≤ 9 := by
  have h1 := dgt_len g
  have h2 := dgt_len k
  have h := Lib.size_eq (segN g k)
  rw [h, segN_list]
  unfold pre4
  simp only [List.length_append, List.length_cons, List.length_nil]
  omega
def digit (c : UInt8) : Bool := decide (48 ≤ c) && decide (c ≤ 57)
def valN (l : List UInt8) : Nat := l.foldl (fun n c => n * 10 + (c.toNat - 48)) 0
/-- The number that the digits say, or 0. -/
def cntN (l : List UInt8) : Nat := if 1 ≤ l.length ∧ l.length ≤ 9 ∧ l.getD 0 0 ≠ 48 ∧ l.all digit = true then valN l else 0
theorem cnt_dgt {n : Nat} (h1 : 1 ≤ n) (h2 : n < 100) : cntN (dgt n) = n := by
  have h : ∀ m : Fin 100, 1 ≤ m.1 → cntN (dgt m.1) = m.1 := by decide +kernel
  exact h ⟨n, h2⟩ h1
theorem dgt_dot {n : Nat} (h2 : n < 100) : ∀ c, c ∈ dgt n → c ≠ 46 ∧ 33 ≤ c ∧ c ≤ 126 := by
  have h : ∀ m : Fin 100, ∀ c, c ∈ dgt m.1 → c ≠ 46 ∧ 33 ≤ c ∧ c ≤ 126 := by decide +kernel
  exact h ⟨n, h2⟩
/-- What stands ahead of the first point, and behind it. -/
def cutA : List UInt8 → List UInt8
  | [] => []
  | c :: l => if c = 46 then [] else c :: cutA l
def cutB : List UInt8 → List UInt8
  | [] => []
  | c :: l => if c = 46 then l else cutB l
theorem cut_app : ∀ {l : List UInt8} (r : List UInt8), (∀ c, c ∈ l → c ≠ 46) → cutA (l ++ 46 :: r) = l ∧ cutB (l ++ 46 :: r) = r
  | [], r, _ => by simp [cutA, cutB]
  | c :: l, r, h => by
    have h1 := cut_app (l := l) r fun x hx => h x (List.mem_cons_of_mem _ hx)
    have h2 := h c List.mem_cons_self
    exact ⟨by rw [List.cons_append, cutA, if_neg h2, h1.1], by rw [List.cons_append, cutB, if_neg h2, h1.2]⟩
theorem cut_miss : ∀ {l : List UInt8}, Lib.indexByte l 46 = -1 → cutA l = l ∧ cutB l = []
  | [], _ => ⟨rfl, rfl⟩
  | c :: l, h => by
    unfold Lib.indexByte at h
    by_cases hc : c = 46
    · subst hc; simp at h
    · have hc' : (c == 46) = false := by simpa using hc
      rw [hc'] at h
      have h1 : Lib.indexByte l 46 = -1 := by
        have := Lib.indexByte_ge l 46
        by_cases e : Lib.indexByte l 46 = -1
        · exact e
        · have e' : (Lib.indexByte l 46 == -1) = false := by simpa using e
          simp only [Bool.false_eq_true, if_false, e'] at h
          omega
      have h2 := cut_miss h1
      exact ⟨by rw [cutA, if_neg hc, h2.1], by rw [cutB, if_neg hc, h2.2]⟩
theorem cut_hit : ∀ {l : List UInt8} {i : Nat}, Lib.indexByte l 46 = (i : Int) → cutA l = l.take i ∧ cutB l = l.drop (i + 1) ∧ i < l.length
  | [], i, h => by unfold Lib.indexByte at h; omega
  | c :: l, i, h => by
    unfold Lib.indexByte at h
    by_cases hc : c = 46
    · subst hc
      have : i = 0 := by simp at h; omega
      subst this
      simp [cutA, cutB]
    · have hc' : (c == 46) = false := by simpa using hc
      rw [hc'] at h
      have := Lib.indexByte_ge l 46
      by_cases e : Lib.indexByte l 46 = -1
      · have e' : (Lib.indexByte l 46 == -1) = true := by simpa using e
        simp only [Bool.false_eq_true, if_false, e', if_true] at h
        omega
      · have e' : (Lib.indexByte l 46 == -1) = false := by simpa using e
        simp only [Bool.false_eq_true, if_false, e'] at h
        obtain ⟨j, rfl⟩ : ∃ j, i = j + 1 := ⟨i - 1, by omega⟩
        have h2 := cut_hit (l := l) (i := j) (by omega)
        exact ⟨by rw [cutA, if_neg hc, h2.1, List.take_succ_cons], by rw [cutB, if_neg hc, h2.2.1, List.drop_succ_cons], by rw [List.length_cons]; omega⟩
/-- The numbers of the segment of that name; (0, 0): it is none's. -/
def segL (l : List UInt8) : Nat × Nat :=
  if Lib.hasPrefix l pre4 = true then
    let a := cntN (cutA (l.drop 4)); let b := cntN (cutB (l.drop 4))
    if a = 0 ∨ b = 0 then (0, 0) else (a, b)
  else (0, 0)
def segOf (s : ByteArray) : Nat × Nat := segL s.data.toList
theorem segOf_segN {g k : Nat} (hg : 1 ≤ g ∧ g < 100) (hk : 1 ≤ k ∧ k < 100) : segOf (segN g k) = (g, k) := by
  unfold segOf segL
  rw [segN_list]
  have h1 : Lib.hasPrefix (pre4 ++ (dgt g ++ (46 :: dgt k))) pre4 = true := by unfold Lib.hasPrefix pre4; simp [List.isPrefixOf]
  have h2 : (pre4 ++ (dgt g ++ (46 :: dgt k))).drop 4 = dgt g ++ (46 :: dgt k) := by unfold pre4; rfl
  have h3 := cut_app (l := dgt g) (dgt k) fun c hc => (dgt_dot hg.2 c hc).1
  rw [if_pos h1, h2]
  simp only [h3.1, h3.2, cnt_dgt hg.1 hg.2, cnt_dgt hk.1 hk.2]
  rw [if_neg (by omega)]
theorem segN_inj {g k g' k' : Nat} (hg : 1 ≤ g ∧ g < 100) (hk : 1 ≤ k ∧ k < 100) (hg' : 1 ≤ g' ∧ g' < 100) (hk' : 1 ≤ k' ∧ k' < 100) (h : segN g k = segN g' k') : g = g' ∧ k = k' := by
  have h1 := segOf_segN hg hk
  rw [h, segOf_segN hg' hk'] at h1
  injection h1 with a b
  exact ⟨a.symm, b.symm⟩
theorem segOf_pos (s : ByteArray) : ((segOf s).1 = 0 ↔ (segOf s).2 = 0) := by
  unfold segOf segL
  split
  · simp only
    split
    · simp
    · rename_i h; simp only; omega
  · simp
theorem segN_name {g k : Nat} (hg : g < 100) (hk : k < 100) : nameB (segN g k) = true := by
  have h := segN_size g k
  unfold nameB
  have h1 : decide (1 ≤ (segN g k).size) = true := by simp; omega
  have h2 : decide ((segN g k).size ≤ 24) = true := by simp; omega
  rw [h1, h2, segN_list]
  simp only [Bool.true_and]
  rw [List.all_eq_true]
  intro c hc
  unfold pre4 at hc
  simp only [List.mem_append, List.mem_cons, List.not_mem_nil, or_false] at hc
  rcases hc with (rfl | rfl | rfl | rfl) | hc | rfl | hc
  · decide
  · decide
  · decide
  · decide
  · have := dgt_dot hg c hc; simp [this.2.1, this.2.2]
  · decide
  · have := dgt_dot hk c hc; simp [this.2.1, this.2.2]
end Go.Proofs.YtkmcnhjfnjikaaaGreatDoor
/- Bytes as frames, in plain words: what is found ahead of the first place where none stands; cut there they are as before. No condition: nothing here speaks of a program. -/
namespace Go.Proofs.YtkmcnhjfnjikaaaGreatDoor
theorem le_byte {zs : List Int} (ho : Octets zs) (i : Nat) : ∀ (n k : Nat), k < n → le zs i n / 256 ^ k % 256 = ix zs (i + k)
  | 0, k, h => absurd h (by omega)
  | n + 1, k, h => by
    have hb := le_bounds ho i n
    have hx := ho.ix (i + n)
    rw [le_succ]
    rcases Nat.lt_or_ge k n with h1 | h1
    · have ih := le_byte ho i n k h1
      obtain ⟨d, rfl⟩ : ∃ d, n = k + (d + 1) := ⟨n - k - 1, by omega⟩
      have e : ix zs (i + (k + (d + 1))) * (256 : Int) ^ (k + (d + 1)) = (ix zs (i + (k + (d + 1))) * 256 ^ d * 256) * 256 ^ k := by
        rw [Int.pow_add, Int.pow_succ]; simp only [Int.mul_assoc, Int.mul_comm, Int.mul_left_comm]
      rw [e, Int.add_mul_ediv_right _ _ (Int.ne_of_gt (pow256_pos k)), Int.add_mul_emod_self_right]
      exact ih
    · obtain rfl : k = n := by omega
      rw [Int.add_mul_ediv_right _ _ (Int.ne_of_gt (pow256_pos k)), Int.ediv_eq_zero_of_lt hb.1 hb.2, Int.zero_add]
      exact Int.emod_eq_of_lt hx.1 (by omega)
theorem putL_le {zs : List Int} (ho : Octets zs) (i n : Nat) (h : i + n ≤ zs.length) : putL (le zs i n) n = (zs.drop i).take n := by
  apply List.ext_getElem
  · rw [length_putL, List.length_take, List.length_drop]; omega
  · intro k h1 h2
    rw [length_putL] at h1
    have e := ix_putL (le zs i n) n h1
    rw [le_byte ho i n k h1] at e
    have e1 : (putL (le zs i n) n)[k]'(by rw [length_putL]; exact h1) = ix (putL (le zs i n) n) k := (ix_lt _ (by rw [length_putL]; exact h1)).symm
    rw [e1, e, List.getElem_take, List.getElem_drop]
    exact ix_lt zs (by rw [List.length_take, List.length_drop] at h2; omega)
/-- Where a frame is found there stands one. -/
theorem frm_back {r : List Int} (ho : Octets r) (h : nxE r = 0) : r = frm (nxP r) ++ r.drop (nxN r + 6) ∧ May (nxP r).length ∧ Octets (nxP r) := by
  obtain ⟨h0, h1, h2, h3⟩ := nxE_ok h
  have hl := length_nxP h
  have op : Octets (nxP r) := fun z hz => ho z (List.mem_of_mem_drop (List.mem_of_mem_take hz))
  refine ⟨?_, by rw [hl]; exact h1, op⟩
  have hb := le_bounds ho 0 2
  have e1 : ((nxP r).length : Int) = le r 0 2 := by rw [hl]; unfold nxN; omega
  have e2 : body (nxP r) = r.take (2 + nxN r) := by
    unfold body
    rw [e1, putL_le ho 0 2 (by omega), List.drop_zero]
    unfold nxP
    rw [show r.take (2 + nxN r) = r.take 2 ++ (r.drop 2).take (nxN r) from List.take_add]
  have e3 : putL (sumL (body (nxP r))) 4 = (r.drop (2 + nxN r)).take 4 := by
    rw [e2, h3, putL_le ho (2 + nxN r) 4 (by omega)]
  have e4 : frm (nxP r) = r.take (nxN r + 6) := by
    unfold frm
    rw [e3, e2, show nxN r + 6 = (2 + nxN r) + 4 by omega]
    exact List.take_add.symm
  rw [e4, List.take_append_drop]
theorem upto_walk {zs : List Int} (ho : Octets zs) : ∀ J, (∀ j, j < J → nxE (zs.drop (plc zs j)) = 0) → zs = enc (pays zs J) ++ zs.drop (plc zs J) ∧ Right (pays zs J) ∧ (enc (pays zs J)).length = plc zs J
  | 0, _ => ⟨rfl, (fun p hp => by cases hp), rfl⟩
  | J + 1, h => by
    obtain ⟨h1, h2, h3⟩ := upto_walk ho J fun j hj => h j (by omega)
    have hJ := h J (by omega)
    obtain ⟨e, hm, op⟩ := frm_back (r := zs.drop (plc zs J)) (fun z hz => ho z (List.mem_of_mem_drop hz)) hJ
    have hl := length_nxP hJ
    have ep : pays zs (J + 1) = pays zs J ++ [nxP (zs.drop (plc zs J))] := rfl
    have eq : plc zs (J + 1) = plc zs J + (nxN (zs.drop (plc zs J)) + 6) := rfl
    refine ⟨?_, ?_, ?_⟩
    · rw [ep, enc_append, enc_one, List.append_assoc, eq, ← List.drop_drop, ← e]; exact h1
    · rw [ep]
      intro p hp
      rcases List.mem_append.1 hp with hp | hp
      · exact h2 p hp
      · have : p = nxP (zs.drop (plc zs J)) := by simpa using hp
        rw [this]; exact ⟨hm, op⟩
    · rw [ep, enc_append, enc_one, List.length_append, h3, length_frm, hl, eq]
theorem upto_ex (zs : List Int) : ∃ J, Upto zs J := by
  by_cases hex : ∃ J, Upto zs J
  · exact hex
  · have all : ∀ J, ∀ j, j < J → nxE (zs.drop (plc zs j)) = 0 := by
      intro J
      induction J with
      | zero => intro j hj; omega
      | succ J ih =>
        intro j hj
        rcases Nat.lt_or_ge j J with h | h
        · exact ih j h
        · obtain rfl : j = J := by omega
          by_cases hz : nxE (zs.drop (plc zs j)) = 0
          · exact hz
          · exact absurd ⟨j, ih, hz⟩ hex
    have h1 := plc_le (zs := zs) (zs.length + 1) (all _)
    have h2 : ∀ J, 7 * J ≤ plc zs J := by
      intro J
      induction J with
      | zero => exact Nat.zero_le _
      | succ J ih =>
        have h3 := (nxE_ok (all (J + 1) J (by omega))).2.1.1
        show 7 * (J + 1) ≤ plc zs J + nxN (zs.drop (plc zs J)) + 6
        omega
    have := h2 (zs.length + 1)
    omega
noncomputable def cntF (zs : List Int) : Nat := Classical.choose (upto_ex zs)
theorem upto_cntF (zs : List Int) : Upto zs (cntF zs) := Classical.choose_spec (upto_ex zs)
/-- The frames' payloads, and the place behind them. -/
noncomputable def frs (zs : List Int) : List (List Int) := pays zs (cntF zs)
noncomputable def fpl (zs : List Int) : Nat := plc zs (cntF zs)
theorem frs_of {zs : List Int} {J : Nat} (h : Upto zs J) : pays zs J = frs zs ∧ plc zs J = fpl zs ∧ (frs zs).length = J := by
  have e := h.same (upto_cntF zs)
  subst e
  exact ⟨rfl, rfl, length_pays _ _⟩
theorem fpl_le (zs : List Int) : fpl zs ≤ zs.length := plc_le _ (upto_cntF zs).1
theorem frs_enc {F : List (List Int)} {r : List Int} (h : Right F) (hr : nxE r ≠ 0) : frs (enc F ++ r) = F ∧ fpl (enc F ++ r) = (enc F).length := by
  obtain ⟨h1, h2, h3⟩ := enc_upto h hr
  have := frs_of h1
  exact ⟨by rw [← this.1, h3], by rw [← this.2.1, h2]⟩
theorem frs_all {F : List (List Int)} (h : Right F) : frs (enc F) = F ∧ fpl (enc F) = (enc F).length := by
  have := frs_enc (r := []) h nxE_nil
  rwa [List.append_nil] at this
theorem frs_parts {zs : List Int} (ho : Octets zs) : zs = enc (frs zs) ++ zs.drop (fpl zs) ∧ Right (frs zs) ∧ (enc (frs zs)).length = fpl zs ∧ nxE (zs.drop (fpl zs)) ≠ 0 := by
  have h := upto_walk ho (cntF zs) (upto_cntF zs).1
  exact ⟨h.1, h.2.1, h.2.2, (upto_cntF zs).2⟩
theorem frs_cut {zs : List Int} (ho : Octets zs) : zs.take (fpl zs) = enc (frs zs) ∧ frs (zs.take (fpl zs)) = frs zs ∧ fpl (zs.take (fpl zs)) = fpl zs := by
  obtain ⟨h1, h2, h3, _⟩ := frs_parts ho
  have e : zs.take (fpl zs) = enc (frs zs) := by
    have : zs.take (fpl zs) = (enc (frs zs) ++ zs.drop (fpl zs)).take (fpl zs) := congrArg _ h1
    rw [this, ← h3, List.take_left]
  rw [e]
  have := frs_all h2
  exact ⟨rfl, this.1, by rw [this.2, h3]⟩
end Go.Proofs.YtkmcnhjfnjikaaaGreatDoor
/- Package wal in plain words: what is read of a generation, which one counts, what Open, Add and Anew make of a disk. No condition: nothing here speaks of a program. -/
namespace Go.Proofs.YtkmcnhjfnjikaaaGreatDoor
def maxI : Int := 9223372036854775807
/-- Does the head ask for no more than so many. -/
def enough (p : List Int) (n : Nat) : Bool := decide (rEndE p (rCntA p 0 0 maxI) (rCntE p 0 0 maxI) = 0) && decide (rCntV p 0 0 maxI ≤ (n : Int))
/-- What was read of a generation: payloads, the last segment, the last place that was read in it, its bytes. -/
structure Gs where
  L : List (List Int)
  k : Nat
  u : Nat
  n : Nat
def Gs.zero : Gs := ⟨[], 0, 0, 0⟩
noncomputable def Gs.more (s : Gs) (k : Nat) (zs : List Int) : Gs := ⟨s.L ++ frs zs, k, fpl zs, zs.length⟩
def Gs.ends (s : Gs) : Bool := s.L.isEmpty || decide (s.u < s.n)
noncomputable def rd (l : List Fl) (g : Nat) : Nat → Nat → Gs → Gs
  | 0, _, s => s
  | f + 1, k, s =>
    match find (segN g k) l with
    | none => s
    | some x => if (s.more k x.dt).ends = true then s.more k x.dt else rd l g f (k + 1) (s.more k x.dt)
noncomputable def gen (l : List Fl) (g : Nat) : Gs := rd l g (l.length + 2) 1 Gs.zero
def wholeG (s : Gs) : Bool :=
  match s.L with
  | [] => false
  | p :: r => enough p r.length
noncomputable def whole (l : List Fl) (g : Nat) : Bool := wholeG (gen l g)
/-- The greatest whole generation of 1 to m; 0: there is none. -/
noncomputable def best (l : List Fl) : Nat → Nat
  | 0 => 0
  | m + 1 => if whole l (m + 1) = true then m + 1 else best l m
/-- Files removed one after the other, up to the first error. -/
def remL : List ByteArray → DS → Int × DS
  | [], d => (0, d)
  | s :: r, d => if remE d s = 0 then remL r (remS d s) else (remE d s, remS d s)
/-- The segments that are taken away. -/
def olds (l : List Fl) (G K : Nat) : List ByteArray := (nms l).filter fun s => decide ((segOf s).1 ≠ 0) && !(decide ((segOf s).1 = G) && decide ((segOf s).2 ≤ K))
section
variable (d : DS)
noncomputable def opG : Nat := best d.l 99
noncomputable def opZ : Gs := if opG d = 0 then Gs.zero else gen d.l (opG d)
noncomputable def opL : List (List Int) := (opZ d).L.tail
noncomputable def op1E : Int := if (opZ d).u < (opZ d).n then cutE d (segN (opG d) (opZ d).k) (opZ d).u else 0
noncomputable def op1S : DS := if (opZ d).u < (opZ d).n then cutS d (segN (opG d) (opZ d).k) (opZ d).u else d
noncomputable def op2 : Int × DS := remL (olds d.l (opG d) (opZ d).k) (op1S d)
noncomputable def opE : Int := if op1E d ≠ 0 then op1E d else if (op2 d).1 ≠ 0 then (op2 d).1 else if opG d = 0 then 0 else synE (op2 d).2 (segN (opG d) (opZ d).k)
noncomputable def opS : DS := if op1E d ≠ 0 then op1S d else if (op2 d).1 ≠ 0 then (op2 d).2 else if opG d = 0 then (op2 d).2 else synS (op2 d).2 (segN (opG d) (opZ d).k)
end
/-- A Wal: the generation, the segment; is it no more. -/
structure WS where
  G : Nat
  K : Nat
  bad : Bool
def most : Nat := 999999999
/-- May records be written. -/
def mayB (F : List (List Int)) : Bool := F.all fun p => decide (1 ≤ p.length) && decide (p.length ≤ 16384)
def nextK (d : DS) (x : WS) : Nat := if 4096 < (datO (find (segN x.G x.K) d.l)).length ∧ x.K < most then x.K + 1 else x.K
/-- Bytes behind a segment, synced. -/
def wrE (d : DS) (nm : ByteArray) (b : List Int) : Int := if appE d nm b ≠ 0 then appE d nm b else synE (appS d nm b) nm
def wrS (d : DS) (nm : ByteArray) (b : List Int) : DS := if appE d nm b ≠ 0 then appS d nm b else synS (appS d nm b) nm
def wrB (d : DS) (nm : ByteArray) (b : List Int) : Bool := decide (wrE d nm b ≠ 0) && decide (appE d nm b ≠ 7)
/-- What a refusal of Add is; 0: none. -/
def adR (x : WS) (F : List (List Int)) : Int := if x.bad then 10 else if x.G = 0 then 8 else if mayB F = false then 1 else 0
def adE (d : DS) (x : WS) (F : List (List Int)) : Int := if adR x F ≠ 0 then adR x F else if F = [] then 0 else wrE d (segN x.G (nextK d x)) (enc F)
def adS (d : DS) (x : WS) (F : List (List Int)) : DS := if adR x F ≠ 0 then d else if F = [] then d else wrS d (segN x.G (nextK d x)) (enc F)
def adW (d : DS) (x : WS) (F : List (List Int)) : WS :=
  if adR x F ≠ 0 then x else if F = [] then x else
  if wrE d (segN x.G (nextK d x)) (enc F) = 0 then ⟨x.G, nextK d x, false⟩ else ⟨x.G, x.K, wrB d (segN x.G (nextK d x)) (enc F)⟩
/-- The old generation's segments, from k on. -/
def dropL (l : List Fl) (g : Nat) : Nat → Nat → List ByteArray
  | 0, _ => []
  | f + 1, k => if (find (segN g k) l).isSome then segN g k :: dropL l g f (k + 1) else []
def anR (x : WS) (F : List (List Int)) : Int := if x.bad then 10 else if mayB F = false then 1 else if x.G = most then 7 else 0
def anB (F : List (List Int)) : List Int := enc (num7 (F.length : Nat) :: F)
def anO (d : DS) (x : WS) (F : List (List Int)) : List ByteArray := if x.G = 0 then [] else dropL (wrS d (segN (x.G + 1) 1) (anB F)).l x.G (d.l.length + 2) 1
def anD (d : DS) (x : WS) (F : List (List Int)) : Int × DS := remL (anO d x F) (wrS d (segN (x.G + 1) 1) (anB F))
def anE (d : DS) (x : WS) (F : List (List Int)) : Int := if anR x F ≠ 0 then anR x F else if wrE d (segN (x.G + 1) 1) (anB F) ≠ 0 then wrE d (segN (x.G + 1) 1) (anB F) else (anD d x F).1
def anS (d : DS) (x : WS) (F : List (List Int)) : DS := if anR x F ≠ 0 then d else if wrE d (segN (x.G + 1) 1) (anB F) ≠ 0 then wrS d (segN (x.G + 1) 1) (anB F) else (anD d x F).2
def anW (d : DS) (x : WS) (F : List (List Int)) : WS :=
  if anR x F ≠ 0 then x else if wrE d (segN (x.G + 1) 1) (anB F) ≠ 0 then ⟨x.G, x.K, wrB d (segN (x.G + 1) 1) (anB F)⟩ else
  if (anD d x F).1 ≠ 0 then ⟨x.G, x.K, true⟩ else ⟨x.G + 1, 1, false⟩
/-- Few files, with small numbers. -/
structure Sm (m : Nat) (l : List Fl) : Prop where
  len : l.length ≤ m
  nm : ∀ f, f ∈ l → (∃ g k, (1 ≤ g ∧ g ≤ m) ∧ (1 ≤ k ∧ k ≤ m) ∧ f.nm = segN g k) ∨ segOf f.nm = (0, 0)
/-- So many segments are there only if there are as many files. -/
theorem found_le {g : Nat} (hg : 1 ≤ g ∧ g < 100) : ∀ {k : Nat} {l : List Fl}, Up l → k < 100 → (∀ j, 1 ≤ j → j ≤ k → (find (segN g j) l).isSome = true) → k ≤ l.length
  | 0, _, _, _, _ => Nat.zero_le _
  | k + 1, l, hu, hk, h => by
    have h1 := length_delF (segN g (k + 1)) l hu
    have h2 := h (k + 1) (by omega) (by omega)
    rw [if_pos h2] at h1
    have h3 : 0 < l.length := by
      cases hf : find (segN g (k + 1)) l with
      | none => rw [hf] at h2; cases h2
      | some f => exact List.length_pos_of_mem (find_mem hf).1
    have h4 := found_le hg (k := k) (l := delF (segN g (k + 1)) l) (up_delF hu) (by omega) fun j h5 h6 => by
      rw [find_delF, if_neg]
      · exact h j h5 (by omega)
      · intro e
        have := segN_inj hg ⟨h5, by omega⟩ hg ⟨by omega, hk⟩ e
        omega
    omega
theorem best_le (l : List Fl) : ∀ m, best l m ≤ m
  | 0 => Nat.le_refl _
  | m + 1 => by
    unfold best
    split
    · exact Nat.le_refl _
    · have := best_le l m; omega
theorem best_whole (l : List Fl) : ∀ m, best l m ≠ 0 → whole l (best l m) = true
  | 0, h => absurd rfl h
  | m + 1, h => by
    unfold best at h ⊢
    split
    · rename_i hw; exact hw
    · rename_i hw; rw [if_neg hw] at h; exact best_whole l m h
theorem best_most (l : List Fl) : ∀ m g, whole l g = true → 1 ≤ g → g ≤ m → g ≤ best l m
  | 0, g, _, h1, h2 => by omega
  | m + 1, g, hw, h1, h2 => by
    unfold best
    split
    · exact h2
    · rename_i hn
      rcases Nat.lt_or_ge m g with h3 | h3
      · obtain rfl : g = m + 1 := by omega
        exact absurd hw hn
      · exact best_most l m g hw h1 h3
theorem best_is {l : List Fl} {m g : Nat} (h1 : g ≤ m) (hw : g ≠ 0 → whole l g = true) (hn : ∀ j, g < j → j ≤ m → whole l j = false) : best l m = g := by
  have h2 : g ≤ best l m := by
    rcases Nat.eq_zero_or_pos g with h | h
    · omega
    · exact best_most l m g (hw (by omega)) h h1
  rcases Nat.lt_or_ge g (best l m) with h3 | h3
  · have h4 := hn _ h3 (best_le l m)
    rw [best_whole l m (by omega)] at h4
    cases h4
  · omega
end Go.Proofs.YtkmcnhjfnjikaaaGreatDoor
