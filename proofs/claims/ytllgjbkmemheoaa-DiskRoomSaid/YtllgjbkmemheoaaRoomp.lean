/- What the law on room comes to, in plain words. No condition. -/
import Derived.Test.YtllgjbkmemheoaaCalls
import Derived.Test.YtllgjbkmemheoaaArgs
import Derived.Test.YtllgjbkmemheoaaWithin
namespace Go.Proofs.Ytllgjbkmemheoaa
open Go.RowKit Go.Maps
/-- The name of round i. -/
def nmR (i : Nat) : ByteArray := ⟨#[UInt8.ofNat (97 + i % 4)]⟩
theorem okR (i : Nat) : nameB (nmR i) = true := by
  have : i % 4 = 0 ∨ i % 4 = 1 ∨ i % 4 = 2 ∨ i % 4 = 3 := by omega
  unfold nmR
  rcases this with h | h | h | h <;> rw [h] <;> decide
theorem szR (i : Nat) : (nmR i).size = 1 := rfl
section
variable {d : DS} {nm : ByteArray} {p : List Int} {q i : Nat}
/-- A disk with power, of which nothing is armed. -/
structure Rm (d : DS) (q : Nat) (i : Nat) : Prop where
  ok : DOk d
  q : d.q = q
  left : d.left = -1
  off : d.off = false
  len : d.l.length ≤ i
theorem rm0 (hq : q ≤ 200) : Rm (newS q) q 0 :=
  ⟨⟨List.Pairwise.nil, by unfold newS; simp only; omega, by unfold newS total; simp, fun f hf => (by cases hf), fun f hf => (by cases hf), fun f hf => (by cases hf), by unfold newS; simp⟩, rfl, rfl, rfl, Nat.le_refl _⟩
theorem spent_free (h : d.left = -1) : d.spent = d := by unfold DS.spent; rw [if_neg (by omega), if_neg (by omega)]
/-- It fits. -/
theorem rm_app (h : Rm d q i) (hn : nameB nm = true) (hp : total d.l + p.length ≤ q) (ho : Octets p) : appE d nm p = 0 ∧ total (appS d nm p).l = total d.l + p.length ∧ Rm (appS d nm p) q (i + 1) := by
  have hq := h.q
  have hf : ¬ d.q < (total d.l : Int) + p.length := by omega
  have hl : ¬ d.left = 0 := by rw [h.left]; omega
  have e : appS d nm p = { d with l := putF ⟨nm, datO (find nm d.l) ++ p, kepO (find nm d.l)⟩ d.l } := by
    unfold appS; rw [h.off, hn, spent_free h.left]; simp [hf, hl, h.off]
  have ht := total_putF ⟨nm, datO (find nm d.l) ++ p, kepO (find nm d.l)⟩ d.l h.ok.up
  have hlen := length_putF ⟨nm, datO (find nm d.l) ++ p, kepO (find nm d.l)⟩ d.l h.ok.up
  have h2 : total (putF ⟨nm, datO (find nm d.l) ++ p, kepO (find nm d.l)⟩ d.l) = total d.l + p.length := by
    simp only [List.length_append] at ht
    have : lenO (find nm d.l) = (datO (find nm d.l)).length := by cases find nm d.l <;> rfl
    omega
  have h3 := h.len
  refine ⟨by unfold appE; rw [h.off, hn]; simp [hf, hl], by rw [e]; exact h2, ?_⟩
  rw [e]
  refine ⟨dok_put h.ok _ ?_ hn ?_ ?_, h.q, h.left, h.off, ?_⟩
  · cases hfd : find nm d.l with
    | none => simp [datO, kepO]
    | some f => have := h.ok.kp f (find_mem hfd).1; simp [datO, kepO]; omega
  · intro z hz
    rcases List.mem_append.1 hz with hz | hz
    · cases hfd : find nm d.l with
      | none => rw [hfd] at hz; cases hz
      | some f => rw [hfd] at hz; exact h.ok.oct f (find_mem hfd).1 z hz
    · exact ho z hz
  · have : lenO (find nm d.l) = (datO (find nm d.l)).length := by cases find nm d.l <;> rfl
    simp only [List.length_append]
    omega
  · simp only [hlen]; split <;> omega
/-- It doesn't fit. -/
theorem rm_full (h : Rm d q i) (hn : nameB nm = true) (hp : q < total d.l + p.length) : appE d nm p = 7 ∧ appS d nm p = d := by
  have hq := h.q
  have hf : d.q < (total d.l : Int) + p.length := by omega
  constructor
  · unfold appE; rw [h.off, hn]; simp [hf]
  · unfold appS; rw [h.off, hn]; simp [hf]
theorem rm_rem (h : Rm d q i) : remE d nm = (if (find nm d.l).isSome then 0 else 8) ∧ total (remS d nm).l = total d.l - (datO (find nm d.l)).length ∧ (datO (find nm d.l)).length ≤ total d.l ∧ Rm (remS d nm) q i := by
  have hl : ¬ d.left = 0 := by rw [h.left]; omega
  have h3 := h.len
  have ht := total_delF nm d.l h.ok.up
  have hll : (delF nm d.l).length ≤ d.l.length := List.length_filter_le _ _
  cases hfd : find nm d.l with
  | none =>
    have e : remS d nm = d := by unfold remS; rw [h.off, hfd]; simp
    refine ⟨by unfold remE; rw [h.off, hfd]; simp, by rw [e]; simp [datO], by simp [datO], by rw [e]; exact h⟩
  | some f =>
    rw [hfd] at ht
    simp only [lenO] at ht
    have e : remS d nm = { d with l := delF nm d.l } := by unfold remS; rw [h.off, hfd, spent_free h.left]; simp [hl, h.off]
    refine ⟨by unfold remE; rw [h.off, hfd]; simp [hl], by rw [e]; simp only [datO]; omega, by simp only [datO]; omega, ?_⟩
    rw [e]
    exact ⟨dok_del h.ok nm, h.q, h.left, h.off, Nat.le_trans hll h3⟩
end
theorem conv_name (i : Nat) (w : World) : (convert 27 9 (.slice (some ⟨w.heap.size, 0, none⟩) 1 1)).run Try.prog (w.alloc (.cells #[.int .u8 (97 + (i : Int) % 4)] 5)) = .ok (.string (nmR i)) (w.alloc (.cells #[.int .u8 (97 + (i : Int) % 4)] 5)) := by
  refine run_convert_bytes_back (P := Try.prog) _ 27 9 5 ⟨w.heap.size, 0, none⟩ 1 [UInt8.ofNat (97 + i % 4)] Try.underlying27 Try.underlying5 Try.underlying9 fun j hj => ?_
  obtain rfl : j = 0 := Nat.lt_one_iff.1 hj
  have h1 := (Row.new w 5 #[.int .u8 (97 + (i : Int) % 4)]).cell 0
  refine h1.trans ?_
  have h2 : (UInt8.ofNat (97 + i % 4)).toNat = 97 + i % 4 := by rw [UInt8.toNat_ofNat']; omega
  show some (Value.int .u8 (97 + (i : Int) % 4)) = some (.int .u8 ((UInt8.ofNat (97 + i % 4)).toNat : Int))
  rw [h2]
  congr 2
section
variable {W w : World} {X : Nat → Prop} {g q : Nat} {d : DS}
theorem tot_run (L : Lw W X w g d) : Calls Try.prog 24 #[.pointer (some ⟨g, 0, none⟩)] w fun e w' => e = .returned (.int .i64 (total d.l)) ∧ Lw W X w' g d :=
  (total_q L.q).mono fun _ _ ⟨h1, h2⟩ => ⟨h1, L.below h2⟩
theorem roo_run (hq : d.q = (q : Int)) (L : Lw W X w g d) : Calls Try.prog 25 #[.pointer (some ⟨g, 0, none⟩)] w fun e w' => e = .returned (.int .i64 ((q : Int) - total d.l)) ∧ Lw W X w' g d :=
  (room_q L.q).mono fun _ _ ⟨h1, h2⟩ => ⟨by rw [h1, hq], L.below h2⟩
end
end Go.Proofs.Ytllgjbkmemheoaa
