/- Package inst's plain functions: which instance is right, which one stands ahead; ballots. No condition. -/
import Derived.Test.YtfihcgimgngmhaaRows
import Derived.Test.YtfihcgimgngmhaaVa
import Derived.WalkKit
import Derived.WalkSpells
import Derived.WalkLawsBesides
import Derived.LoopTactic
import Derived.BigQuiet
import Derived.Deep.QuietTactic
import Derived.StillTailTactics
import Derived.LoopN
import Derived.Deep.DeepCutAuto
import Derived.Lib.MinMax
import Derived.Test.YtfihcgimgngmhaaVb
import Derived.Laws.StructEq
import Derived.Deep.RegionHeld3
import Derived.Lib.AppendStr
namespace Go.Proofs.Ytfihcgimgngmhaa
open Go.RowKit
/-- -1, 0 or 1: how x stands to y. -/
def cmpI (x y : Int) : Int := if x < y then -1 else if y < x then 1 else 0
/-- The first of the two that isn't nought. -/
def orI (x y : Int) : Int := if x = 0 then y else x
def cmpP (a b : Int × Int) : Int := orI (cmpI a.1 b.1) (cmpI a.2 b.2)
/-- Does a stand ahead of b? -/
def ltP (a b : Int × Int) : Bool := decide (a.1 < b.1) || (a.1 == b.1 && decide (a.2 < b.2))
def repB (n : Int) : Bool := decide (0 ≤ n) && decide (n < 7)
theorem cmp_lt (a b : Int × Int) : decide (cmpP a b < 0) = ltP a b := by
  obtain ⟨a1, a2⟩ := a
  obtain ⟨b1, b2⟩ := b
  unfold cmpP orI cmpI ltP
  simp only
  by_cases h1 : a1 < b1
  · simp [h1]
  · by_cases h2 : b1 < a1
    · have : ¬ a1 = b1 := by omega
      simp [h1, h2, this]
    · have : a1 = b1 := by omega
      subst this
      by_cases h3 : a2 < b2
      · simp [h3]
      · by_cases h4 : b2 < a2 <;> simp [h3, h4]
theorem isreplica_any (n : Int) (w : World) : Calls Try.prog 36 #[.int .i64 n] w fun e w' => e = .returned (.bool (repB n)) ∧ w = w' := by
  go_enter Try.func36, Try.ntmps36
  go_wp2
  all_goals (go_ret; exact ⟨ret_bool (by unfold repB; first | (simp [*]; done) | (simp [*] <;> omega)), rfl⟩)
end Go.Proofs.Ytfihcgimgngmhaa
/- Package inst's comparison. No condition. -/
namespace Go.Proofs.Ytfihcgimgngmhaa
open Go.RowKit
theorem below_two (w : World) (o p : Obj) : Below w.heap.size w ((w.alloc o).alloc p) := ((Below.refl _ _).alloc (Nat.le_refl _) _).alloc (by simp) _
def rightI (r s : Int) : Bool := repB r && decide (1 ≤ s) && decide (s ≤ 1073741824)
def i_rightB (e r : Int) : Bool := repB r && decide (0 ≤ e) && decide (e ≤ 1073741824)
theorem right_any (r s : Int) (w : World) : Calls Try.prog 22 #[.agg #[.int .i64 r, .int .i64 s]] w fun e w' => e = .returned (.bool (rightI r s)) ∧ Below w.heap.size w w' := by
  have hc := fun W => isreplica_any r W
  unfold rightI
  generalize repB r = p at hc ⊢
  go_enter Try.func22, Try.ntmps22
  go_wp2_with (go_at_call 36; refine (hc _).mono ?_; rintro e w' ⟨rfl, rfl⟩)
  all_goals (go_ret; exact ⟨ret_bool (by first | (simp [*]; done) | (simp [*] <;> omega)), (Below.refl _ _).alloc (Nat.le_refl _) _⟩)
end Go.Proofs.Ytfihcgimgngmhaa
/- Rows of slots and attributes as plain lists of numbers: Right, RightAttr, RightDeps, Covers, Reach of package deps, and the document's. No condition. -/
namespace Go.Proofs.Ytfihcgimgngmhaa
open Go.RowKit
/-- A place of a row, read out of it as a value. -/
theorem index_deps (d1 d2 d3 d4 d5 d6 d7 : Int) (k : Nat) (h : k < 7) (w : World) : (Instr.index 32 (.agg #[.int .i64 d1, .int .i64 d2, .int .i64 d3, .int .i64 d4, .int .i64 d5, .int .i64 d6, .int .i64 d7]) (.int .i64 (k : Int))).run Try.prog w = .ok (.int .i64 (ix [d1, d2, d3, d4, d5, d6, d7] k)) w := by
  have i0 : (Instr.index 32 (.agg #[.int .i64 d1, .int .i64 d2, .int .i64 d3, .int .i64 d4, .int .i64 d5, .int .i64 d6, .int .i64 d7]) (.int .i64 ((0 : Nat) : Int))).run Try.prog w = .ok (.int .i64 (ix [d1, d2, d3, d4, d5, d6, d7] 0)) w := by kernel_rfl
  have i1 : (Instr.index 32 (.agg #[.int .i64 d1, .int .i64 d2, .int .i64 d3, .int .i64 d4, .int .i64 d5, .int .i64 d6, .int .i64 d7]) (.int .i64 ((1 : Nat) : Int))).run Try.prog w = .ok (.int .i64 (ix [d1, d2, d3, d4, d5, d6, d7] 1)) w := by kernel_rfl
  have i2 : (Instr.index 32 (.agg #[.int .i64 d1, .int .i64 d2, .int .i64 d3, .int .i64 d4, .int .i64 d5, .int .i64 d6, .int .i64 d7]) (.int .i64 ((2 : Nat) : Int))).run Try.prog w = .ok (.int .i64 (ix [d1, d2, d3, d4, d5, d6, d7] 2)) w := by kernel_rfl
  have i3 : (Instr.index 32 (.agg #[.int .i64 d1, .int .i64 d2, .int .i64 d3, .int .i64 d4, .int .i64 d5, .int .i64 d6, .int .i64 d7]) (.int .i64 ((3 : Nat) : Int))).run Try.prog w = .ok (.int .i64 (ix [d1, d2, d3, d4, d5, d6, d7] 3)) w := by kernel_rfl
  have i4 : (Instr.index 32 (.agg #[.int .i64 d1, .int .i64 d2, .int .i64 d3, .int .i64 d4, .int .i64 d5, .int .i64 d6, .int .i64 d7]) (.int .i64 ((4 : Nat) : Int))).run Try.prog w = .ok (.int .i64 (ix [d1, d2, d3, d4, d5, d6, d7] 4)) w := by kernel_rfl
  have i5 : (Instr.index 32 (.agg #[.int .i64 d1, .int .i64 d2, .int .i64 d3, .int .i64 d4, .int .i64 d5, .int .i64 d6, .int .i64 d7]) (.int .i64 ((5 : Nat) : Int))).run Try.prog w = .ok (.int .i64 (ix [d1, d2, d3, d4, d5, d6, d7] 5)) w := by kernel_rfl
  have i6 : (Instr.index 32 (.agg #[.int .i64 d1, .int .i64 d2, .int .i64 d3, .int .i64 d4, .int .i64 d5, .int .i64 d6, .int .i64 d7]) (.int .i64 ((6 : Nat) : Int))).run Try.prog w = .ok (.int .i64 (ix [d1, d2, d3, d4, d5, d6, d7] 6)) w := by kernel_rfl
  match k, h with
  | 0, _ => exact i0
  | 1, _ => exact i1
  | 2, _ => exact i2
  | 3, _ => exact i3
  | 4, _ => exact i4
  | 5, _ => exact i5
  | 6, _ => exact i6
/-- Does p hold of all places below k? -/
def allTo (p : Nat → Bool) (k : Nat) : Bool := (List.range k).all p
theorem allTo_iff {p : Nat → Bool} {k : Nat} : allTo p k = true ↔ ∀ j, j < k → p j = true := by
  unfold allTo
  rw [List.all_eq_true]
  exact ⟨fun h j hj => h j (List.mem_range.2 hj), fun h j hj => h j (List.mem_range.1 hj)⟩
theorem allTo_succ {p : Nat → Bool} {k : Nat} (h : allTo p k = true) (hk : p k = true) : allTo p (k + 1) = true := by
  rw [allTo_iff] at h ⊢
  intro j hj
  rcases Nat.lt_or_ge j k with h1 | h1
  · exact h j h1
  · obtain rfl : j = k := by omega
    exact hk
theorem allTo_not {p : Nat → Bool} {k m : Nat} (hk : p k = false) (h : k < m) : allTo p m = false := by
  rw [← Bool.not_eq_true, allTo_iff]
  intro hall
  rw [hall k h] at hk
  cases hk
theorem allTo_zero {p : Nat → Bool} : allTo p 0 = true := rfl
/-- May it be a slot that is depended on? -/
def slotB (n : Int) : Bool := decide (0 ≤ n) && decide (n ≤ 1073741824)
def d_okAt (d : List Int) (k : Nat) : Bool := slotB (ix d k)
def rightD (d : List Int) : Bool := allTo (d_okAt d) 7
def rightA (s : Int) (d : List Int) : Bool := decide (0 ≤ s) && decide (s ≤ 1099511627776) && rightD d
def covAt (a b : List Int) (k : Nat) : Bool := decide (ix b k ≤ ix a k)
def coversB (a b : List Int) : Bool := allTo (covAt a b) 7
theorem slot_low {n : Int} (h : n < 0) : slotB n = false := by unfold slotB; simp; omega
theorem slot_high {n : Int} (h : 1073741824 < n) : slotB n = false := by unfold slotB; simp; omega
theorem slot_ok {n : Int} (h : ¬ n < 0) (h1 : ¬ 1073741824 < n) : slotB n = true := by unfold slotB; simp; omega
/-- A row of slots in a block of its own, place by place. -/
theorem row_ix {w : World} {g : Nat} {t : TypeId} {d1 d2 d3 d4 d5 d6 d7 : Int} (h : Row w g t #[.int .i64 d1, .int .i64 d2, .int .i64 d3, .int .i64 d4, .int .i64 d5, .int .i64 d6, .int .i64 d7]) (k : Nat) (hk : k < 7) : w.cell? ⟨g, k, none⟩ = some (.int .i64 (ix [d1, d2, d3, d4, d5, d6, d7] k)) := by
  rw [h.cell]
  match k, hk with
  | 0, _ => rfl
  | 1, _ => rfl
  | 2, _ => rfl
  | 3, _ => rfl
  | 4, _ => rfl
  | 5, _ => rfl
  | 6, _ => rfl
set_option maxHeartbeats 400000 in
theorem covers_any (a1 a2 a3 a4 a5 a6 a7 b1 b2 b3 b4 b5 b6 b7 : Int) (w : World) : Calls Try.prog 25 #[.agg #[.int .i64 a1, .int .i64 a2, .int .i64 a3, .int .i64 a4, .int .i64 a5, .int .i64 a6, .int .i64 a7], .agg #[.int .i64 b1, .int .i64 b2, .int .i64 b3, .int .i64 b4, .int .i64 b5, .int .i64 b6, .int .i64 b7]] w fun e w' =>
    e = .returned (.bool (coversB [a1, a2, a3, a4, a5, a6, a7] [b1, b2, b3, b4, b5, b6, b7])) ∧ Below w.heap.size w w' := by
  have R := hide ((Row.new w 32 #[.int .i64 a1, .int .i64 a2, .int .i64 a3, .int .i64 a4, .int .i64 a5, .int .i64 a6, .int .i64 a7]).alloc (.cells #[.int .i64 b1, .int .i64 b2, .int .i64 b3, .int .i64 b4, .int .i64 b5, .int .i64 b6, .int .i64 b7] 32))
  have hb := hide (show Below w.heap.size w ((w.alloc (.cells #[.int .i64 a1, .int .i64 a2, .int .i64 a3, .int .i64 a4, .int .i64 a5, .int .i64 a6, .int .i64 a7] 32)).alloc (.cells #[.int .i64 b1, .int .i64 b2, .int .i64 b3, .int .i64 b4, .int .i64 b5, .int .i64 b6, .int .i64 b7] 32)) from ((Below.refl _ _).alloc (Nat.le_refl _) _).alloc (by simp) _)
  go_enter Try.func25, Try.ntmps25
  go_wp2
  go_loop [8] (fun i => ∃ k : Nat, k ≤ 7 ∧ i = .int .i64 k ∧ Hid (allTo (covAt [a1, a2, a3, a4, a5, a6, a7] [b1, b2, b3, b4, b5, b6, b7]) k = true)) (fun i => 7 - (intOf i).toNat)
  case atStart => exact ⟨0, by omega, rfl, allTo_zero⟩
  case round =>
    obtain ⟨k, hk, rfl, hall⟩ := hrel
    by_cases hlt : k < 7
    · have hc := row_ix R.out k hlt
      have hi := index_deps b1 b2 b3 b4 b5 b6 b7 k hlt
      have hp : ∀ b, decide (ix [b1, b2, b3, b4, b5, b6, b7] k ≤ ix [a1, a2, a3, a4, a5, a6, a7] k) = b → covAt [a1, a2, a3, a4, a5, a6, a7] [b1, b2, b3, b4, b5, b6, b7] k = b := fun _ h => h
      have HP := hide hp
      clear hp
      generalize ix [a1, a2, a3, a4, a5, a6, a7] k = x at hc HP
      generalize ix [b1, b2, b3, b4, b5, b6, b7] k = y at hi HP
      by_cases h0 : x < y
      · have hn := hide (allTo_not (HP.out false (by simp; omega)) hlt)
        go_wp2
        go_ret
        exact ⟨ret_bool hn.out.symm, hb.out⟩
      · have hn := hide (allTo_succ hall.out (HP.out true (by simp; omega)))
        go_wp2
        go_round
        case rel => exact ⟨k + 1, by omega, by go_num, hn⟩
        case measure => simp [intOf]; omega
    · obtain rfl : k = 7 := by omega
      go_wp2
      go_ret
      exact ⟨ret_bool hall.out.symm, hb.out⟩
/-- Does a row of slots reach an instance? -/
def reachB (d : List Int) (r s : Int) : Bool := rightI r s && decide (s ≤ ix d r.toNat)
theorem rightI_says {r s : Int} (h : rightI r s = true) : (0 ≤ r ∧ r < 7) ∧ 1 ≤ s ∧ s ≤ 1073741824 := by
  unfold rightI repB at h
  simp only [Bool.and_eq_true, decide_eq_true_eq] at h
  omega
end Go.Proofs.Ytfihcgimgngmhaa
/- Commands in plain words: which may be, what they touch, which two clash; their bytes. No condition: nothing here speaks of a program. -/
namespace Go.Proofs.Ytfihcgimgngmhaa
set_option maxRecDepth 100000
open Go.RowKit
/-- No text. -/
def noT : ByteArray := ⟨#[]⟩
/-- The command that does nothing. -/
def c_zeroC : Cm := ⟨0, 0, 0, noT, noT, noT, noT⟩
/-- Are the commands the same. -/
def sameC (x y : Cm) : Bool := x.k == y.k && (x.c == y.c && (x.q == y.q && (eqB x.key y.key && (eqB x.en y.en && (eqB x.old y.old && eqB x.val y.val)))))
/-- What the kind names. -/
def namedC (x : Cm) : Cm :=
  if x.k = 1 ∨ x.k = 3 then ⟨x.k, x.c, x.q, x.key, noT, noT, noT⟩
  else if x.k = 2 then ⟨x.k, x.c, x.q, x.key, noT, noT, x.val⟩
  else if x.k = 4 then ⟨x.k, x.c, x.q, x.key, noT, x.old, x.val⟩
  else if x.k = 5 then ⟨x.k, x.c, x.q, x.key, x.en, noT, noT⟩
  else c_zeroC
/-- Within the limits. -/
def boundC (x : Cm) : Bool :=
  !(nilB x.key && decide (x.k ≠ 5)) && (decide (1 ≤ x.c) && (decide (x.c ≤ 8) && (decide (1 ≤ x.q) && (decide (x.q ≤ 1099511627776) &&
    (decide (x.key.size ≤ 16 ∧ x.en.size ≤ 16) && decide (x.old.size ≤ 64 ∧ x.val.size ≤ 64))))))
def rightC (x : Cm) : Bool := if x.k = 0 then sameC x c_zeroC else sameC x (namedC x) && boundC x
/-- Does it touch keys; from where; to where. -/
def hasC (k : Int) : Bool := decide (1 ≤ k) && decide (k ≤ 5)
def loC (x : Cm) : ByteArray := if hasC x.k then x.key else noT
def hiC (x : Cm) : ByteArray := if hasC x.k then (if x.k = 5 then x.en else nextT x.key) else noT
def writesC (k : Int) : Bool := decide (2 ≤ k) && decide (k ≤ 4)
def clashC (x y : Cm) : Bool := (hasC x.k && hasC y.k) && (x.c == y.c || ((writesC x.k || writesC y.k) && meetB (loC x) (hiC x) (loC y) (hiC y)))
theorem eqB_self (a : ByteArray) : eqB a a = true := by simp [eqB]
theorem eqB_iff {a b : ByteArray} : eqB a b = true ↔ a = b := by
  unfold eqB
  rw [beq_iff_eq]
  constructor
  · intro h
    rw [ByteArray.toList_eq, ByteArray.toList_eq] at h
    obtain ⟨⟨x⟩⟩ := a
    obtain ⟨⟨y⟩⟩ := b
    exact congrArg (fun l => (⟨⟨l⟩⟩ : ByteArray)) h
  · rintro rfl; rfl
theorem sameC_iff {x y : Cm} : sameC x y = true ↔ x = y := by
  obtain ⟨k, c, q, a, b, o, v⟩ := x
  obtain ⟨k', c', q', a', b', o', v'⟩ := y
  unfold sameC
  simp only [Bool.and_eq_true, beq_iff_eq, eqB_iff, Cm.mk.injEq]
theorem c_nilB_iff {a : ByteArray} : nilB a = true ↔ a = noT := by
  unfold nilB noT
  rw [List.isEmpty_iff, ByteArray.toList_eq]
  obtain ⟨⟨x⟩⟩ := a
  constructor
  · intro h; exact congrArg (fun l => (⟨⟨l⟩⟩ : ByteArray)) h
  · intro h; exact congrArg (fun l : ByteArray => l.data.toList) h
end Go.Proofs.Ytfihcgimgngmhaa
/- What the functions of package span come to. No condition. -/
namespace Go.Proofs.Ytfihcgimgngmhaa
open Go.RowKit
/-- Block g holds a span. -/
structure Two (w : World) (g : Nat) (x y : ByteArray) : Prop where
  c0 : w.cell? ⟨g, 0, none⟩ = some (.string x)
  c1 : w.cell? ⟨g, 1, none⟩ = some (.string y)
  lt : g < w.heap.size
theorem Two.kept {w w' : World} {g : Nat} {x y : ByteArray} (h : Two w g x y) (hb : Below w.heap.size w w') : Two w' g x y :=
  ⟨(hb.cell (p := ⟨g, 0, none⟩) h.lt).trans h.c0, (hb.cell (p := ⟨g, 1, none⟩) h.lt).trans h.c1, Nat.lt_of_lt_of_le h.lt hb.size⟩
theorem Two.drew {w : World} {g : Nat} {x y : ByteArray} (h : Two w g x y) : Two w.drew g x y := ⟨h.c0, h.c1, h.lt⟩
theorem Two.new (w : World) (x y : ByteArray) (t : TypeId) : Two (w.alloc (.cells #[.string x, .string y] t)) w.heap.size x y :=
  ⟨by simp [World.cell?_alloc_new], by simp [World.cell?_alloc_new], by simp⟩
/-- Three spans lie in the call's own memory, and what was there is as it was. -/
structure St (W w : World) (k l m : Nat) (a b c d e f : ByteArray) : Prop where
  one : Two w k a b
  two : Two w l c d
  three : Two w m e f
  old : Below W.heap.size W w
section
variable {W w w' : World} {k l m : Nat} {a b c d e f : ByteArray}
theorem St.drew (h : St W w k l m a b c d e f) : St W w.drew k l m a b c d e f := ⟨h.one.drew, h.two.drew, h.three.drew, h.old.drew⟩
theorem St.step (h : St W w k l m a b c d e f) (g : Below w.heap.size w w') : St W w' k l m a b c d e f := ⟨h.one.kept g, h.two.kept g, h.three.kept g, h.old.trans (g.mono h.old.size)⟩
/-- A call that makes memory leaves the spans. -/
theorem St.call {P : Program} {F : FuncId} {args : Array Value} {v : Value} (h : St W w k l m a b c d e f) (hf : Calls P F args w fun x w' => x = .returned v ∧ Below w.heap.size w w') :
    Calls P F args w fun x w' => x = .returned v ∧ w'.cell? ⟨k, 0, none⟩ = some (.string a) ∧ w'.cell? ⟨k, 1, none⟩ = some (.string b) ∧ w'.cell? ⟨l, 0, none⟩ = some (.string c) ∧ w'.cell? ⟨l, 1, none⟩ = some (.string d) ∧
      w'.cell? ⟨m, 0, none⟩ = some (.string e) ∧ w'.cell? ⟨m, 1, none⟩ = some (.string f) ∧ St W w' k l m a b c d e f :=
  hf.mono fun _ _ ⟨he, hb⟩ => have g := h.step hb; ⟨he, g.one.c0, g.one.c1, g.two.c0, g.two.c1, g.three.c0, g.three.c1, g⟩
end
theorem old_call {P : Program} {F : FuncId} {args : Array Value} {v : Value} {W w : World} (h : Below W.heap.size W w) (hf : Calls P F args w fun x w' => x = .returned v ∧ Below w.heap.size w w') :
    Calls P F args w fun x w' => x = .returned v ∧ Below W.heap.size W w' := hf.mono fun _ _ ⟨he, hb⟩ => ⟨he, h.trans (hb.mono h.size)⟩
/-- Two spans that were just laid. -/
theorem St.start (W : World) (a b c d : ByteArray) (t : TypeId) : St W ((W.alloc (.cells #[.string a, .string b] t)).alloc (.cells #[.string c, .string d] t)) W.heap.size (W.heap.size + 1) (W.heap.size + 1) a b c d c d := by
  have h1 := (Two.new W a b t).kept ((Below.refl _ _).alloc (Nat.le_refl _) (.cells #[.string c, .string d] t))
  have h2 := Two.new (W.alloc (.cells #[.string a, .string b] t)) c d t
  simp only [World.size_alloc] at h2
  exact ⟨h1, h2, h2, ((Below.refl _ _).alloc (Nat.le_refl _) _).alloc (by simp) _⟩
theorem spanin_any (k h : ByteArray) (w : World) :
    Calls Try.prog 45 #[.string k, .string h] w fun e w' => e = .returned (.bool (inB k h)) ∧ w = w' := by
  go_enter Try.func45, Try.ntmps45
  go_wp2
  all_goals go_ret
  all_goals exact ⟨ret_bool (by simp [inB, nilB, ltB, *]), rfl⟩
theorem of_any (k : ByteArray) (w : World) (hk : k.size ≤ 140737488355328) :
    Calls Try.prog 43 #[.string k] w fun e w' => e = .returned (.agg #[.string k, .string (nextT k)]) ∧ Below w.heap.size w w' := by
  have hl : ¬ (k.size + 1 > 9223372036854775807) := by omega
  go_enter Try.func43, Try.ntmps43
  go_wp2
  exact bodyPost_ret (v := .agg #[.string k, .string (nextT k)]) (by simp [results, Try.results43, go_sem, nextT]) rfl ⟨rfl, (Below.refl _ _).alloc (Nat.le_refl _) _⟩
theorem empty_any (lo hi : ByteArray) (w : World) :
    Calls Try.prog 44 #[.agg #[.string lo, .string hi]] w fun e w' => e = .returned (.bool (emB lo hi)) ∧ Below w.heap.size w w' := by
  go_enter Try.func44, Try.ntmps44
  go_wp2_with (go_at_call 45; refine (spanin_any _ _ _).mono ?_; rintro e w' ⟨rfl, rfl⟩)
  go_ret
  exact ⟨rfl, (Below.refl _ _).alloc (Nat.le_refl _) _⟩
set_option maxHeartbeats 1000000 in
theorem meets_any (la ha lb hb : ByteArray) (w : World) :
    Calls Try.prog 39 #[.agg #[.string la, .string ha], .agg #[.string lb, .string hb]] w fun e w' => e = .returned (.bool (meetB la ha lb hb)) ∧ Below w.heap.size w w' := by
  have hs := hide (St.start w la ha lb hb 72)
  go_enter Try.func39, Try.ntmps39
  go_wp2_with (first
    | (go_at_call 45; (with_reducible refine (spanin_any _ _ _).mono ?_); rintro e w' ⟨rfl, rfl⟩)
    | (go_at_call 44; (with_reducible refine (hs.out.call (empty_any _ _ _)).mono ?_); rintro e w' ⟨rfl, q0, q1, q2, q3, _, _, st⟩)
    | (go_at_call 44; (with_reducible refine (St.call (by with_reducible assumption) (empty_any _ _ _)).mono ?_); rintro e w' ⟨rfl, q0, q1, q2, q3, _, _, st⟩))
  all_goals go_ret
  all_goals exact ⟨ret_bool (by simp [meetB, *]), st.old⟩
end Go.Proofs.Ytfihcgimgngmhaa
/- What the small functions of package cmd come to. No condition. -/
namespace Go.Proofs.Ytfihcgimgngmhaa
set_option maxRecDepth 100000
open Go.RowKit
theorem eql_cmd (k c q : Int) (a b o v : ByteArray) (k' c' q' : Int) (a' b' o' v' : ByteArray) (w : World) :
    (binOp .eql 29 (.agg #[.int .i64 k, .int .i64 c, .int .i64 q, .string a, .string b, .string o, .string v]) (.agg #[.int .i64 k', .int .i64 c', .int .i64 q', .string a', .string b', .string o', .string v'])).run Try.prog w =
      .ok (.bool (sameC ⟨k, c, q, a, b, o, v⟩ ⟨k', c', q', a', b', o', v'⟩)) w := by
  have u3 := Try.underlying3
  have a3 := Try.isAgg3
  have z3 := Try.sizeOf3
  have u9 := Try.underlying9
  have a9 := Try.isAgg9
  have z9 := Try.sizeOf9
  have hS : Try.prog.underlying 29 = some (.struct (Try.prog.fieldsOf 29)) := by kernel_rfl
  have hp : Try.prog.stoodInHeld 29 = false := by kernel_rfl
  rw [run_eql_struct, show (10000 : Nat) = 9999 + 1 from rfl, run_equalIn_agg w 9999 29 _ _ hS hp]
  simp only [Program.fieldsOf, Try.underlying29]
  go_simp
  unfold sameC eqB
  cases h1 : (k == k') <;> simp_all
  cases h2 : (c == c') <;> simp_all
  cases h3 : (q == q') <;> simp_all
  cases h4 : (a.toList == a'.toList) <;> simp_all
  cases h5 : (b.toList == b'.toList) <;> simp_all
  cases h6 : (o.toList == o'.toList) <;> simp_all
  cases h7 : (v.toList == v'.toList) <;> simp_all
theorem kinds5 (k : Int) : k = 1 ∨ k = 2 ∨ k = 3 ∨ k = 4 ∨ k = 5 ∨ ((k == 1) = false ∧ (k == 2) = false ∧ (k == 3) = false ∧ (k == 4) = false ∧ (k == 5) = false) := by
  simp only [beq_eq_false_iff_ne]; omega
/-- The command's value. -/
def valC (x : Cm) : Value := .agg #[.int .i64 x.k, .int .i64 x.c, .int .i64 x.q, .string x.key, .string x.en, .string x.old, .string x.val]
theorem bit_alloc {B : Nat} {a w : World} (h : Below B a w) (hB : B ≤ a.heap.size) (o : Obj) : Below B a (w.alloc o) := h.alloc (Nat.le_trans hB h.size) o
set_option maxRecDepth 100000 in
set_option maxHeartbeats 2000000 in
theorem named_any (k c q : Int) (a b o v : ByteArray) (w : World) :
    Calls Try.prog 34 #[.agg #[.int .i64 k, .int .i64 c, .int .i64 q, .string a, .string b, .string o, .string v]] w fun e w' => e = .returned (valC (namedC ⟨k, c, q, a, b, o, v⟩)) ∧ Below w.heap.size w w' := by
  rcases kinds5 k with rfl | rfl | rfl | rfl | rfl | ⟨k1, k2, k3, k4, k5⟩
  · go_enter Try.func34, Try.ntmps34
    go_wp2
    refine bodyPost_ret (v := valC ⟨1, c, q, a, noT, noT, noT⟩) (by simp [results, Try.results34, go_sem, valC, noT]) rfl ⟨rfl, ?_⟩
    repeat' first | exact Below.refl _ _ | refine bit_alloc ?_ (Nat.le_refl _) _
  · go_enter Try.func34, Try.ntmps34
    go_wp2
    refine bodyPost_ret (v := valC ⟨2, c, q, a, noT, noT, v⟩) (by simp [results, Try.results34, go_sem, valC, noT]) rfl ⟨rfl, ?_⟩
    repeat' first | exact Below.refl _ _ | refine bit_alloc ?_ (Nat.le_refl _) _
  · go_enter Try.func34, Try.ntmps34
    go_wp2
    refine bodyPost_ret (v := valC ⟨3, c, q, a, noT, noT, noT⟩) (by simp [results, Try.results34, go_sem, valC, noT]) rfl ⟨rfl, ?_⟩
    repeat' first | exact Below.refl _ _ | refine bit_alloc ?_ (Nat.le_refl _) _
  · go_enter Try.func34, Try.ntmps34
    go_wp2
    go_region
    go_wp2
    refine bodyPost_ret (v := valC ⟨4, c, q, a, noT, o, v⟩) (by simp [results, Try.results34, go_sem, valC, noT]) rfl ⟨rfl, ?_⟩
    repeat' first | exact Below.refl _ _ | refine Below.drew ?_ | refine bit_alloc ?_ (Nat.le_refl _) _
  · go_enter Try.func34, Try.ntmps34
    go_wp2
    refine bodyPost_ret (v := valC ⟨5, c, q, a, b, noT, noT⟩) (by simp [results, Try.results34, go_sem, valC, noT]) rfl ⟨rfl, ?_⟩
    repeat' first | exact Below.refl _ _ | refine bit_alloc ?_ (Nat.le_refl _) _
  · have e : namedC ⟨k, c, q, a, b, o, v⟩ = c_zeroC := by
      simp only [beq_eq_false_iff_ne] at k1 k2 k3 k4 k5
      unfold namedC
      rw [if_neg (by simp only; omega), if_neg k2, if_neg k4, if_neg k5]
    rw [e]
    go_enter Try.func34, Try.ntmps34
    go_wp2
    refine bodyPost_ret (v := valC c_zeroC) (by simp [results, Try.results34, go_sem, valC, c_zeroC, noT]) rfl ⟨rfl, ?_⟩
    repeat' first | exact Below.refl _ _ | refine bit_alloc ?_ (Nat.le_refl _) _
theorem writes_any (k c q : Int) (a b o v : ByteArray) (w : World) :
    Calls Try.prog 38 #[.agg #[.int .i64 k, .int .i64 c, .int .i64 q, .string a, .string b, .string o, .string v]] w fun e w' => e = .returned (.bool (writesC k)) ∧ Below w.heap.size w w' := by
  rcases kinds5 k with rfl | rfl | rfl | rfl | rfl | ⟨k1, k2, k3, k4, k5⟩
  · go_enter Try.func38, Try.ntmps38
    go_wp2
    go_ret
    exact ⟨rfl, (Below.refl _ _).alloc (Nat.le_refl _) _⟩
  · go_enter Try.func38, Try.ntmps38
    go_wp2
    go_ret
    exact ⟨rfl, (Below.refl _ _).alloc (Nat.le_refl _) _⟩
  · go_enter Try.func38, Try.ntmps38
    go_wp2
    go_ret
    exact ⟨rfl, (Below.refl _ _).alloc (Nat.le_refl _) _⟩
  · go_enter Try.func38, Try.ntmps38
    go_wp2
    go_ret
    exact ⟨rfl, (Below.refl _ _).alloc (Nat.le_refl _) _⟩
  · go_enter Try.func38, Try.ntmps38
    go_wp2
    go_ret
    exact ⟨rfl, (Below.refl _ _).alloc (Nat.le_refl _) _⟩
  · have e : writesC k = false := by
      simp only [beq_eq_false_iff_ne] at k1 k2 k3 k4 k5
      unfold writesC
      rw [Bool.and_eq_false_iff, decide_eq_false_iff_not, decide_eq_false_iff_not]; omega
    rw [e]
    clear e
    go_enter Try.func38, Try.ntmps38
    go_wp2
    go_ret
    exact ⟨rfl, (Below.refl _ _).alloc (Nat.le_refl _) _⟩
end Go.Proofs.Ytfihcgimgngmhaa
/- Numbers as pieces of seven bits, and back: plain arithmetic of package pack. No condition: nothing here speaks of a program. -/
namespace Go.Proofs.Ytfihcgimgngmhaa
open Go.RowKit
def zigI (n : Int) : Int := if n < 0 then -2 * n - 1 else 2 * n
def zagI (u : Int) : Int := if u % 2 = 1 then -1 - u / 2 else u / 2
theorem zag_zig (n : Int) : zagI (zigI n) = n := by
  unfold zigI zagI; split <;> split <;> omega
theorem zig_zag (u : Int) (h : 0 ≤ u) : zigI (zagI u) = u := by
  unfold zigI zagI; split <;> split <;> omega
theorem zig_bounds (n : Int) (h0 : -9223372036854775808 ≤ n) (h1 : n ≤ 9223372036854775807) : 0 ≤ zigI n ∧ zigI n ≤ 18446744073709551615 := by
  unfold zigI; split <;> omega
theorem zag_bounds (u : Int) (h0 : 0 ≤ u) (h1 : u ≤ 18446744073709551615) : -9223372036854775808 ≤ zagI u ∧ zagI u ≤ 9223372036854775807 := by
  unfold zagI; split <;> omega
theorem zag_zero : zagI 0 = 0 := by decide
/-- The number of n that is turned into pieces. -/
def zigN (n : Int) : Nat := (zigI n).toNat
theorem zigN_lt (n : Int) (h0 : -9223372036854775808 ≤ n) (h1 : n ≤ 9223372036854775807) : zigN n < 18446744073709551616 := by
  have := zig_bounds n h0 h1; unfold zigN; omega
theorem zigN_cast (n : Int) (h0 : -9223372036854775808 ≤ n) (h1 : n ≤ 9223372036854775807) : ((zigN n : Nat) : Int) = zigI n := by
  have := zig_bounds n h0 h1; unfold zigN; omega
theorem zag_zigN (n : Int) : zagI (zigN n : Nat) = n := by
  have h : ((zigN n : Nat) : Int) = zigI n := by
    have : 0 ≤ zigI n := by unfold zigI; split <;> omega
    unfold zigN; omega
  rw [h, zag_zig]
theorem zigN_inj {a b : Int} (h : zigN a = zigN b) : a = b := by
  rw [← zag_zigN a, ← zag_zigN b, h]

/-- u in pieces of seven bits, the lowest first, 128 put to each but the last; at most f of them. -/
def sev : Nat → Nat → List Int
  | 0, _ => []
  | f + 1, u => if u < 128 then [(u : Int)] else ((u % 128 + 128 : Nat) : Int) :: sev f (u / 128)
theorem sev_last {f u : Nat} (h : u < 128) : sev (f + 1) u = [(u : Int)] := by unfold sev; rw [if_pos h]
theorem sev_more {f u : Nat} (h : 128 ≤ u) : sev (f + 1) u = ((u % 128 + 128 : Nat) : Int) :: sev f (u / 128) := by
  rw [sev, if_neg (by omega)]
theorem sev_le : ∀ f u, (sev f u).length ≤ f
  | 0, _ => Nat.le_refl _
  | f + 1, u => by
    by_cases h : u < 128
    · rw [sev_last h]; simp
    · rw [sev_more (by omega), List.length_cons]; have := sev_le f (u / 128); omega
theorem sev_pos (f u : Nat) : 1 ≤ (sev (f + 1) u).length := by
  by_cases h : u < 128
  · rw [sev_last h]; simp
  · rw [sev_more (by omega)]; simp
theorem octets_sev : ∀ f u, Octets (sev f u)
  | 0, _ => fun z hz => by cases hz
  | f + 1, u => fun z hz => by
    by_cases h : u < 128
    · rw [sev_last h] at hz; obtain rfl := List.mem_singleton.1 hz; omega
    · rw [sev_more (by omega)] at hz
      rcases List.mem_cons.1 hz with rfl | hz
      · omega
      · exact octets_sev f _ z hz
/-- A number's bytes. -/
def num7 (n : Int) : List Int := sev 10 (zigN n)
theorem num7_len (n : Int) : 1 ≤ (num7 n).length ∧ (num7 n).length ≤ 10 := ⟨sev_pos 9 _, sev_le 10 _⟩
theorem octets_num7 (n : Int) : Octets (num7 n) := octets_sev 10 _
theorem sev_mono : ∀ (f u v : Nat), u ≤ v → (sev f u).length ≤ (sev f v).length
  | 0, _, _, _ => Nat.le_refl _
  | f + 1, u, v, h => by
    by_cases hu : u < 128
    · rw [sev_last hu]; exact sev_pos f v
    · rw [sev_more (by omega), sev_more (by omega), List.length_cons, List.length_cons]
      have := sev_mono f (u / 128) (v / 128) (Nat.div_le_div_right h); omega

/-- What reading comes to, k pieces on, u behind them: the number, how many bytes it has, the error. -/
def rdN : Nat → Nat → List Int → Nat × Nat × Int
  | _, _, [] => (0, 0, 3)
  | k, u, p :: ps => if (0 < k ∧ p = 0) ∨ (k = 9 ∧ 1 < p) then (0, 0, 4) else if p < 128 then (u + (p % 128).toNat * 128 ^ k, k + 1, 0) else rdN (k + 1) (u + (p % 128).toNat * 128 ^ k) ps
def rdV (zs : List Int) : Int := zagI ((rdN 0 0 zs).1 : Nat)
def rdS (zs : List Int) : Nat := (rdN 0 0 zs).2.1
def rdE (zs : List Int) : Int := (rdN 0 0 zs).2.2
theorem rdN_nil (k u : Nat) : rdN k u [] = (0, 0, 3) := rfl
theorem rdN_form {k u : Nat} {p : Int} {ps : List Int} (h : (0 < k ∧ p = 0) ∨ (k = 9 ∧ 1 < p)) : rdN k u (p :: ps) = (0, 0, 4) := by
  rw [rdN, if_pos h]
theorem rdN_last {k u : Nat} {p : Int} {ps : List Int} (h : ¬ ((0 < k ∧ p = 0) ∨ (k = 9 ∧ 1 < p))) (hp : p < 128) : rdN k u (p :: ps) = (u + (p % 128).toNat * 128 ^ k, k + 1, 0) := by
  rw [rdN, if_neg h, if_pos hp]
theorem rdN_more {k u : Nat} {p : Int} {ps : List Int} (h : ¬ ((0 < k ∧ p = 0) ∨ (k = 9 ∧ 1 < p))) (hp : ¬ p < 128) : rdN k u (p :: ps) = rdN (k + 1) (u + (p % 128).toNat * 128 ^ k) ps := by
  rw [rdN, if_neg h, if_neg hp]
theorem pow128_9 : (128 : Nat) ^ 9 = 9223372036854775808 := by decide
theorem pow128_pos (k : Nat) : 0 < 128 ^ k := Nat.pow_pos (by omega)
theorem pow128_le {k : Nat} (h : k ≤ 9) : (128 : Nat) ^ k ≤ 9223372036854775808 := by
  rw [← pow128_9]; exact Nat.pow_le_pow_right (by omega) h
theorem pow128_two (k : Nat) : (128 : Nat) ^ k = 2 ^ (7 * k) := by rw [Nat.pow_mul]
/-- One step's number has room. -/
theorem step_lt {k u : Nat} {p : Int} (hk : k ≤ 9) (hu : u < 128 ^ k) (h0 : 0 ≤ p) (h1 : p ≤ 255) (h : ¬ ((0 < k ∧ p = 0) ∨ (k = 9 ∧ 1 < p))) :
    u + (p % 128).toNat * 128 ^ k < 18446744073709551616 ∧ (k < 9 → u + (p % 128).toNat * 128 ^ k < 128 ^ (k + 1)) := by
  have hq : (p % 128).toNat ≤ 127 := by omega
  have hm : (p % 128).toNat * 128 ^ k ≤ 127 * 128 ^ k := Nat.mul_le_mul_right _ hq
  have hs : (128 : Nat) ^ (k + 1) = 128 ^ k * 128 := Nat.pow_succ _ _
  refine ⟨?_, fun _ => by omega⟩
  by_cases h9 : k = 9
  · subst h9
    have hp : p ≤ 1 := by omega
    have hq1 : (p % 128).toNat ≤ 1 := by omega
    have hm1 : (p % 128).toNat * 128 ^ 9 ≤ 1 * 128 ^ 9 := Nat.mul_le_mul_right _ hq1
    rw [pow128_9] at *
    omega
  · have h8 : (128 : Nat) ^ (k + 1) ≤ 128 ^ 9 := Nat.pow_le_pow_right (by omega) (by omega)
    rw [pow128_9] at h8
    omega
theorem rdN_bounds : ∀ (zs : List Int) (k u : Nat), k ≤ 9 → u < 128 ^ k → Octets zs → (rdN k u zs).1 < 18446744073709551616 ∧ 0 ≤ (rdN k u zs).2.2 ∧ (rdN k u zs).2.2 ≤ 4 ∧ (rdN k u zs).2.1 ≤ 10 ∧ ((rdN k u zs).2.2 = 0 → k < (rdN k u zs).2.1 ∧ (rdN k u zs).2.1 ≤ k + zs.length) ∧ ((rdN k u zs).2.2 ≠ 0 → (rdN k u zs).1 = 0 ∧ (rdN k u zs).2.1 = 0)
  | [], k, u, _, _, _ => by rw [rdN_nil]; simp
  | p :: ps, k, u, hk, hu, ho => by
    have hp := ho p (List.mem_cons_self ..)
    by_cases hf : (0 < k ∧ p = 0) ∨ (k = 9 ∧ 1 < p)
    · rw [rdN_form hf]; simp
    · have hs := step_lt hk hu hp.1 hp.2 hf
      by_cases hl : p < 128
      · rw [rdN_last hf hl]
        refine ⟨hs.1, by simp, by simp, by simp; omega, fun _ => by simp, fun h => absurd rfl h⟩
      · rw [rdN_more hf hl]
        have hk9 : k < 9 := by omega
        have := rdN_bounds ps (k + 1) _ (by omega) (hs.2 hk9) (fun z hz => ho z (List.mem_cons_of_mem _ hz))
        rw [List.length_cons]
        refine ⟨this.1, this.2.1, this.2.2.1, this.2.2.2.1, fun h => ?_, this.2.2.2.2.2⟩
        have h5 := this.2.2.2.2.1 h
        omega
theorem rd_bounds {zs : List Int} (ho : Octets zs) : -9223372036854775808 ≤ rdV zs ∧ rdV zs ≤ 9223372036854775807 ∧ 0 ≤ rdE zs ∧ rdE zs ≤ 4 ∧ rdS zs ≤ 10 ∧ rdS zs ≤ zs.length ∧ (rdE zs ≠ 0 → rdV zs = 0 ∧ rdS zs = 0) := by
  have h := rdN_bounds zs 0 0 (by omega) (by simp) ho
  have hz := zag_bounds ((rdN 0 0 zs).1 : Nat) (by omega) (by omega)
  unfold rdV rdE rdS
  refine ⟨hz.1, hz.2, h.2.1, h.2.2.1, h.2.2.2.1, ?_, fun he => ?_⟩
  · by_cases he : (rdN 0 0 zs).2.2 = 0
    · have := h.2.2.2.2.1 he; omega
    · have := h.2.2.2.2.2 he; omega
  · have := h.2.2.2.2.2 he
    rw [this.1, this.2]
    exact ⟨zag_zero, rfl⟩
/-- Reading what was written, whatever lies behind. -/
theorem rdN_sev : ∀ (f k u v : Nat) (ys : List Int), k + f = 9 → v * 128 ^ k < 18446744073709551616 → (0 < k → 0 < v) → rdN k u (sev (f + 1) v ++ ys) = (u + v * 128 ^ k, k + (sev (f + 1) v).length, 0)
  | f, k, u, v, ys, hk, hv, h0 => by
    by_cases hl : v < 128
    · rw [sev_last hl, List.singleton_append]
      have hf : ¬ ((0 < k ∧ (v : Int) = 0) ∨ (k = 9 ∧ 1 < (v : Int))) := by
        rintro (⟨a, b⟩ | ⟨a, b⟩)
        · have := h0 a; omega
        · subst a
          rw [pow128_9] at hv; omega
      rw [rdN_last hf (by omega)]
      have e : ((v : Int) % 128).toNat = v := by omega
      rw [e]; rfl
    · match f with
      | 0 =>
        have : k = 9 := by omega
        subst this
        rw [pow128_9] at hv; omega
      | f + 1 =>
        rw [sev_more (by omega), List.cons_append]
        have hf : ¬ ((0 < k ∧ ((v % 128 + 128 : Nat) : Int) = 0) ∨ (k = 9 ∧ 1 < ((v % 128 + 128 : Nat) : Int))) := by omega
        rw [rdN_more hf (by omega)]
        have e : (((v % 128 + 128 : Nat) : Int) % 128).toNat = v % 128 := by omega
        have hs : (128 : Nat) ^ (k + 1) = 128 * 128 ^ k := by rw [Nat.pow_succ, Nat.mul_comm]
        have hm : v / 128 * 128 ^ (k + 1) + v % 128 * 128 ^ k = v * 128 ^ k := by
          rw [hs, ← Nat.mul_assoc, ← Nat.add_mul]; congr 1; omega
        rw [e, rdN_sev f (k + 1) _ (v / 128) ys (by omega) (by omega) (by omega), List.length_cons]
        refine Prod.ext ?_ (Prod.ext ?_ rfl)
        · show u + v % 128 * 128 ^ k + v / 128 * 128 ^ (k + 1) = _
          omega
        · show k + 1 + _ = k + (_ + 1)
          omega
theorem rd_num7 (n : Int) (ys : List Int) (h0 : -9223372036854775808 ≤ n) (h1 : n ≤ 9223372036854775807) : rdV (num7 n ++ ys) = n ∧ rdS (num7 n ++ ys) = (num7 n).length ∧ rdE (num7 n ++ ys) = 0 := by
  have h := rdN_sev 9 0 0 (zigN n) ys (by omega) (by have := zigN_lt n h0 h1; omega) (by omega)
  unfold rdV rdS rdE num7
  rw [h]
  refine ⟨?_, ?_, rfl⟩
  · show zagI ((0 + zigN n * 128 ^ 0 : Nat) : Int) = n
    rw [Nat.pow_zero, Nat.mul_one, Nat.zero_add, zag_zigN]
  · exact Nat.zero_add _
/-- What was written, cut off, is short. -/
theorem rdN_cut : ∀ (f k u v j : Nat), k + f ≤ 9 → j < (sev (f + 1) v).length → rdN k u ((sev (f + 1) v).take j) = (0, 0, 3)
  | f, k, u, v, 0, _, _ => by rw [List.take_zero]; rfl
  | f, k, u, v, j + 1, hk, hj => by
    by_cases hl : v < 128
    · rw [sev_last hl] at hj; simp at hj
    · match f with
      | 0 =>
        rw [sev_more (by omega)] at hj
        simp [sev] at hj
      | f + 1 =>
        rw [sev_more (by omega)] at hj ⊢
        rw [List.length_cons] at hj
        rw [List.take_succ_cons]
        have hf : ¬ ((0 < k ∧ ((v % 128 + 128 : Nat) : Int) = 0) ∨ (k = 9 ∧ 1 < ((v % 128 + 128 : Nat) : Int))) := by omega
        rw [rdN_more hf (by omega)]
        exact rdN_cut f (k + 1) _ (v / 128) j (by omega) (by omega)
theorem rd_cut (n : Int) (j : Nat) (hj : j < (num7 n).length) : rdE ((num7 n).take j) = 3 := by
  unfold rdE num7
  rw [rdN_cut 9 0 0 (zigN n) j (by omega) hj]
/-- What is taken as a number, whole, are that number's bytes. -/
theorem rdN_back : ∀ (zs : List Int) (k u v s : Nat), k ≤ 9 → u < 128 ^ k → Octets zs → rdN k u zs = (v, s, 0) → ∃ x, v = u + x * 128 ^ k ∧ (0 < k → 0 < x) ∧ k < s ∧ sev (10 - k) x = zs.take (s - k)
  | [], k, u, v, s, _, _, _, h => by rw [rdN_nil] at h; simp at h
  | p :: ps, k, u, v, s, hk, hu, ho, h => by
    have hp := ho p (List.mem_cons_self ..)
    by_cases hf : (0 < k ∧ p = 0) ∨ (k = 9 ∧ 1 < p)
    · rw [rdN_form hf] at h; simp at h
    · have hs := step_lt hk hu hp.1 hp.2 hf
      obtain ⟨P, rfl⟩ := Int.eq_ofNat_of_zero_le hp.1
      obtain ⟨f, hfk⟩ : ∃ f, 10 - k = f + 1 := ⟨9 - k, by omega⟩
      rw [hfk]
      by_cases hl : (P : Int) < 128
      · rw [rdN_last hf hl] at h
        injection h with h1 h2
        injection h2 with h2 _
        have e : ((P : Int) % 128).toNat = P := by omega
        refine ⟨P, by rw [← h1, e], by omega, by omega, ?_⟩
        have e2 : s - k = 1 := by omega
        rw [sev_last (by omega), e2]; rfl
      · rw [rdN_more hf hl] at h
        have hk9 : k < 9 := by omega
        obtain ⟨x, hx, hx0, hks, hsev⟩ := rdN_back ps (k + 1) _ v s (by omega) (hs.2 hk9) (fun z hz => ho z (List.mem_cons_of_mem _ hz)) h
        have e : ((P : Int) % 128).toNat = P - 128 := by omega
        have hxp := hx0 (by omega)
        refine ⟨P - 128 + 128 * x, ?_, by omega, by omega, ?_⟩
        · rw [hx, e]
          have hs : (128 : Nat) ^ (k + 1) = 128 * 128 ^ k := by rw [Nat.pow_succ, Nat.mul_comm]
          rw [hs, Nat.add_mul, Nat.mul_comm 128 x, Nat.mul_assoc]; omega
        · rw [sev_more (by omega)]
          have e1 : (P - 128 + 128 * x) % 128 + 128 = P := by omega
          have e2 : (P - 128 + 128 * x) / 128 = x := by omega
          have e3 : 10 - (k + 1) = f := by omega
          obtain ⟨j, hj⟩ : ∃ j, s - k = j + 1 := ⟨s - k - 1, by omega⟩
          have e4 : s - (k + 1) = j := by omega
          rw [e3, e4] at hsev
          rw [e1, e2, hsev, hj, List.take_succ_cons]
theorem rd_back {zs : List Int} (ho : Octets zs) (h : rdE zs = 0) : num7 (rdV zs) = zs.take (rdS zs) := by
  obtain ⟨x, hx, _, _, hs⟩ := rdN_back zs 0 0 (rdN 0 0 zs).1 (rdN 0 0 zs).2.1 (by omega) (by simp) ho (Prod.ext rfl (Prod.ext rfl h))
  have hx' : (rdN 0 0 zs).1 = x := by rw [hx, Nat.pow_zero]; omega
  have hv : zigN (rdV zs) = x := by
    unfold zigN rdV
    rw [zig_zag _ (by omega), hx']; rfl
  unfold num7 rdS
  rw [hv, hs, Nat.sub_zero]
/-- Two numbers of the same bytes are the same. -/
theorem num7_inj {a b : Int} (a0 : -9223372036854775808 ≤ a) (a1 : a ≤ 9223372036854775807) (b0 : -9223372036854775808 ≤ b) (b1 : b ≤ 9223372036854775807) (h : num7 a = num7 b) : a = b := by
  have h1 := (rd_num7 a [] a0 a1).1
  have h2 := (rd_num7 b [] b0 b1).1
  rw [← h1, ← h2, h]
theorem num7_mono {a b : Int} (h0 : 0 ≤ a) (h : a ≤ b) : (num7 a).length ≤ (num7 b).length := by
  refine sev_mono 10 _ _ ?_
  unfold zigN zigI
  rw [if_neg (by omega), if_neg (by omega)]; omega
end Go.Proofs.Ytfihcgimgngmhaa
/- What the scalar functions that package pack and the document's own answer stand on come to. Conditions: the bounds of the arguments' kinds. -/
namespace Go.Proofs.Ytfihcgimgngmhaa
open Go.RowKit
theorem i64_xor_neg (n : Int) (h0 : -9223372036854775808 ≤ n) (h1 : n ≤ 9223372036854775807) : bits .xor .i64 (-1) n = -1 - n := by
  show IntKind.i64.wrap ((BitVec.ofInt 64 (-1) ^^^ BitVec.ofInt 64 n).toNat : Int) = _
  have h2 : BitVec.ofInt 64 (-1) = BitVec.allOnes 64 := by decide
  rw [h2, BitVec.allOnes_xor, BitVec.toNat_not, BitVec.toNat_ofInt, IntKind.wrap_i64]
  omega
theorem or_one (x : Int) (h0 : 0 ≤ x) (h1 : x ≤ 9223372036854775807) : bits .or .u64 (x * 2) 1 = 2 * x + 1 := by
  obtain ⟨X, rfl⟩ := Int.eq_ofNat_of_zero_le h0
  have e : ((X : Int) * 2) = ((X * 2 : Nat) : Int) := by omega
  have h := u64_or_nat (X * 2) 1 (by omega) (by omega)
  rw [e]
  refine h.trans ?_
  rw [nat_join 1 (X * 2) 1 (by omega) (by omega)]
  omega
theorem and_one (u : Int) (h0 : 0 ≤ u) (h1 : u ≤ 18446744073709551615) : bits .and .u64 u 1 = u % 2 := by
  obtain ⟨U, rfl⟩ := Int.eq_ofNat_of_zero_le h0
  have h := u64_and_nat U 1 (by omega) (by omega)
  refine h.trans ?_
  rw [Nat.and_one_is_mod]; rfl
theorem and_127 (u : Nat) (h : u < 18446744073709551616) : bits .and .u64 (u : Int) 127 = (u % 128 : Nat) := by
  have e := u64_and_nat u 127 h (by omega)
  refine e.trans ?_
  exact congrArg _ (Nat.and_two_pow_sub_one_eq_mod u 7)
theorem or_128 (u : Nat) (h : u < 128) : bits .or .u64 (u : Int) 128 = (u + 128 : Nat) := by
  have e := u64_or_nat u 128 (by omega) (by omega)
  refine e.trans ?_
  rw [Nat.or_comm, ← Nat.two_pow_add_eq_or_of_lt (i := 7) h 1]
  omega
theorem or8_128 (u : Nat) (h : u < 128) : bits .or .u8 (u : Int) 128 = (u + 128 : Nat) := by
  have e := u8_or_nat u 128 (by omega) (by omega)
  refine e.trans ?_
  rw [Nat.or_comm, ← Nat.two_pow_add_eq_or_of_lt (i := 7) h 1]
  omega
theorem and8_127 (u : Nat) (h : u < 256) : bits .and .u8 (u : Int) 127 = (u % 128 : Nat) := by
  have e := u8_and_nat u 127 h (by omega)
  refine e.trans ?_
  exact congrArg _ (Nat.and_two_pow_sub_one_eq_mod u 7)
end Go.Proofs.Ytfihcgimgngmhaa
/- What Same comes to over two slices of bytes: are the lists the same. Conditions: each lies in memory, its length has room. -/
namespace Go.Proofs.Ytfihcgimgngmhaa
open Go.RowKit
theorem Try.info5 : (Try.prog.info? 5).map (fun i => (i.zero, i.size, i.bytes)) = some (some (.int .u8 0), 1, 1) := by kernel_rfl
end Go.Proofs.Ytfihcgimgngmhaa
/- What Num, Text and Flag come to, package pack's and the document's own. Conditions: the slice lies in memory and holds bytes, lengths have room. -/
namespace Go.Proofs.Ytfihcgimgngmhaa
open Go.RowKit
/-- append of a slice that lies anywhere onto a row that has room for it. -/
theorem lies_fits {w : World} {A : Option Addr} {zs : List Int} (h : Lies w A zs) : ∀ ad : Addr, A = some ad → ∀ j u, (cellsOf zs)[j]? = some u → w.cell? (ad.add j) = some u := by
  rintro ad rfl j u hj
  obtain ⟨hk, _⟩ := cellsOf_some hj
  obtain ⟨b, off, e, _⟩ := h (by omega)
  injection e with e
  subst e
  exact Lies.cells h j u hj
theorem room_of {f v : Nat} (hf : f ≤ 9) (h : v < 2 * 128 ^ f) : v < 18446744073709551616 := by
  have := pow128_le hf; omega
theorem room_start {m : Int} (h0 : -9223372036854775808 ≤ m) (h1 : m ≤ 9223372036854775807) : zigN m < 2 * 128 ^ 9 := by
  have := zigN_lt m h0 h1; rw [pow128_9]; omega
theorem room_step {f v : Nat} (h : v < 2 * 128 ^ f) (hv : 128 ≤ v) : ∃ g, f = g + 1 ∧ v / 128 < 2 * 128 ^ g := by
  match f with
  | 0 => simp at h; omega
  | g + 1 => exact ⟨g, rfl, by rw [Nat.pow_succ] at h; omega⟩
/-- A string's bytes. -/
def strL (s : ByteArray) : List Int := s.data.toList.map fun b => (b.toNat : Int)
theorem length_strL (s : ByteArray) : (strL s).length = s.size := by unfold strL; rw [List.length_map]; rfl
theorem octets_strL (s : ByteArray) : Octets (strL s) := fun z hz => by
  unfold strL at hz
  obtain ⟨b, _, rfl⟩ := List.mem_map.1 hz
  have := b.toNat_lt
  omega
theorem cells_strL (s : ByteArray) : cellsOf (strL s) = Go.Lib.strCells s := by
  unfold cellsOf strL Go.Lib.strCells; rw [List.map_map]; rfl
/-- A text's bytes. -/
def text7 (s : ByteArray) : List Int := num7 s.size ++ strL s
theorem text7_len (s : ByteArray) : (text7 s).length = (num7 s.size).length + s.size := by unfold text7; rw [List.length_append, length_strL]
end Go.Proofs.Ytfihcgimgngmhaa
/- What Flag comes to, package pack's and the document's own, and word's Put and Get of one byte. Conditions: the slice lies in memory and holds bytes, lengths have room. -/
namespace Go.Proofs.Ytfihcgimgngmhaa
set_option maxRecDepth 100000
open Go.RowKit
theorem shl_zero (z : Int) (h0 : 0 ≤ z) (h1 : z ≤ 255) : bits .or .u64 0 z = z := by
  obtain ⟨Z, rfl⟩ := Int.eq_ofNat_of_zero_le h0
  have e := u64_or_nat 0 Z (by omega) (by omega)
  refine e.trans ?_
  rw [Nat.zero_or]
/-- The one byte that Get reads. -/
def get1V (zs : List Int) (i : Nat) : Int := if i < zs.length then ix zs i else 0
def get1E (zs : List Int) (i : Nat) : Int := if i < zs.length then 0 else 3
end Go.Proofs.Ytfihcgimgngmhaa
/- What number and count of package pack come to. Conditions: the slice lies in memory and holds bytes, its length has room. -/
namespace Go.Proofs.Ytfihcgimgngmhaa
set_option maxRecDepth 100000
open Go.RowKit
theorem or_step {v q k : Nat} (hv : v < 128 ^ k) (h : v + q * 128 ^ k < 18446744073709551616) :
    bits .or .u64 (v : Int) (IntKind.u64.wrap ((q : Int) * 2 ^ (k * 7))) = ((v + q * 128 ^ k : Nat) : Int) := by
  have e : (q : Int) * 2 ^ (k * 7) = ((q * 128 ^ k : Nat) : Int) := by
    rw [Int.natCast_mul, Int.natCast_pow, Nat.mul_comm k 7, Int.pow_mul]; rfl
  rw [e, IntWalk.u64_in _ ⟨by omega, by omega⟩, u64_or_nat v _ (by omega) (by omega)]
  rw [pow128_two] at *
  rw [Nat.mul_comm q, Nat.or_comm, ← Nat.two_pow_add_eq_or_of_lt hv, Nat.add_comm]
theorem drop_ix {zs : List Int} {k : Nat} (h : k < zs.length) : zs.drop k = ix zs k :: zs.drop (k + 1) := by
  rw [List.drop_eq_getElem_cons h, ix_lt zs h]
theorem ret_three {k l m : IntKind} {a b c d x y : Int} (h : a = b) (g : c = d) (i : x = y) : Ending.returned (.tuple #[.int k a, .int l c, .int m x]) = .returned (.tuple #[.int k b, .int l d, .int m y]) := by rw [h, g, i]
theorem rd_of {zs : List Int} {v s : Nat} {e : Int} (h : rdN 0 0 zs = (v, s, e)) : rdV zs = zagI v ∧ rdS zs = s ∧ rdE zs = e := by
  unfold rdV rdS rdE; rw [h]; exact ⟨rfl, rfl, rfl⟩
theorem rd_none {zs : List Int} {e : Int} (h : rdN 0 0 zs = (0, 0, e)) : rdV zs = 0 ∧ ((rdS zs : Nat) : Int) = 0 ∧ rdE zs = e := by
  obtain ⟨a, b, c⟩ := rd_of h
  exact ⟨a, by rw [b]; rfl, c⟩
/-- What the tests of a byte say. -/
theorem tests {k : Nat} {p : Int} (hk : k ≤ 9) (h : ¬ ((0 < k ∧ p = 0) ∨ (k = 9 ∧ 1 < p))) :
    (decide (0 < k) = false ∧ decide (0 < (k : Int)) = false ∧ ((k : Int) == 9) = false) ∨ (decide (0 < k) = true ∧ decide (0 < (k : Int)) = true ∧ (p == 0) = false ∧ ((k : Int) == 9) = false) ∨
    (decide (0 < k) = true ∧ decide (0 < (k : Int)) = true ∧ (p == 0) = false ∧ ((k : Int) == 9) = true ∧ decide (1 < p) = false) := by
  by_cases h0 : k = 0
  · left; subst h0; exact ⟨by decide, by decide, by decide⟩
  · right
    have a : decide (0 < (k : Int)) = true := by rw [decide_eq_true_iff]; omega
    have a' : decide (0 < k) = true := by rw [decide_eq_true_iff]; omega
    have b : (p == 0) = false := by rw [beq_eq_false_iff_ne]; omega
    by_cases h9 : k = 9
    · right; subst h9; exact ⟨a', a, b, by decide, by rw [decide_eq_false_iff_not]; omega⟩
    · left; exact ⟨a', a, b, by rw [beq_eq_false_iff_ne]; omega⟩
theorem tests_bad {k : Nat} {p : Int} (h : (0 < k ∧ p = 0) ∨ (k = 9 ∧ 1 < p)) :
    (decide (0 < k) = true ∧ decide (0 < (k : Int)) = true ∧ (p == 0) = true) ∨ (decide (0 < k) = true ∧ decide (0 < (k : Int)) = true ∧ (p == 0) = false ∧ ((k : Int) == 9) = true ∧ decide (1 < p) = true) := by
  by_cases hp : p = 0
  · left; exact ⟨by rw [decide_eq_true_iff]; omega, by rw [decide_eq_true_iff]; omega, by rw [hp]; rfl⟩
  · right
    obtain ⟨rfl, h1⟩ : k = 9 ∧ 1 < p := by omega
    exact ⟨by decide, by decide, by rw [beq_eq_false_iff_ne]; omega, by decide, by rw [decide_eq_true_iff]; omega⟩
end Go.Proofs.Ytfihcgimgngmhaa
/- A reader behind a pointer: its bytes, its place, its error; what becomes of it when other memory is written; what each call comes to, in plain words. No condition. -/
namespace Go.Proofs.Ytfihcgimgngmhaa
set_option maxRecDepth 100000
open Go.RowKit
/-- Bytes that lie below block B. -/
def Deep (w : World) (B : Nat) (A : Option Addr) (zs : List Int) : Prop :=
  0 < zs.length → ∃ b off, A = some ⟨b, off, none⟩ ∧ b < B ∧ ∀ k, k < zs.length → w.cell? ⟨b, off + k, none⟩ = some (.int .u8 (ix zs k))
theorem Deep.keep {w w' : World} {B : Nat} {A : Option Addr} {zs : List Int} (h : Deep w B A zs) (hb : ∀ k, k < B → w'.heap[k]? = w.heap[k]?) : Deep w' B A zs := fun hn => by
  obtain ⟨b, off, e, hlt, hc⟩ := h hn
  exact ⟨b, off, e, hlt, fun k hk => (World.cell?_of_block (w := w) (a := ⟨b, off + k, none⟩) (hb b hlt)).trans (hc k hk)⟩
theorem Deep.lies {w : World} {B : Nat} {A : Option Addr} {zs : List Int} (h : Deep w B A zs) (hB : B ≤ w.heap.size) : Lies w A zs := fun hn => by
  obtain ⟨b, off, e, hlt, hc⟩ := h hn
  exact ⟨b, off, e, by omega, hc⟩
theorem Lies.deep {w : World} {A : Option Addr} {zs : List Int} (h : Lies w A zs) : Deep w w.heap.size A zs := h


/-- The reader at block g (of type t): bytes zs that lie below block B, place i, error e. -/
structure Rdr (t : TypeId) (w : World) (B g : Nat) (zs : List Int) (i : Nat) (e : Int) : Prop where
  row : ∃ A n c, Row w g t #[.slice A n c, .int .i64 i, .int .i64 e] ∧ zs.length = n ∧ n ≤ c ∧ n ≤ 4611686018427387904 ∧ Deep w B A zs
  oct : Octets zs
  here : i ≤ zs.length
  low : B ≤ g
  err : 0 ≤ e ∧ e ≤ 9
section
variable {t : TypeId} {w w' : World} {B g i : Nat} {zs : List Int} {e : Int}
theorem Rdr.keep (h : Rdr t w B g zs i e) (hb : ∀ k, k < B → w'.heap[k]? = w.heap[k]?) (hg : w'.heap[g]? = w.heap[g]?) : Rdr t w' B g zs i e := by
  obtain ⟨⟨A, n, c, hr, h1, h2, h3, hd⟩, ho, hi, hl, he⟩ := h
  exact ⟨⟨A, n, c, hg.trans hr, h1, h2, h3, hd.keep hb⟩, ho, hi, hl, he⟩
theorem Rdr.lt (h : Rdr t w B g zs i e) : g < w.heap.size := by
  obtain ⟨⟨A, n, c, hr, _⟩, _⟩ := h
  exact hr.lt
theorem Rdr.drewN (h : Rdr t w B g zs i e) (n : Nat) : Rdr t (w.drewN n) B g zs i e := h.keep (fun _ _ => rfl) rfl
theorem Rdr.below (h : Rdr t w B g zs i e) (hb : Below w.heap.size w w') : Rdr t w' B g zs i e :=
  have hl := h.lt
  have hB := h.low
  h.keep (fun k hk => hb.block k (by omega)) (hb.block g hl)
theorem Rdr.alloc (h : Rdr t w B g zs i e) (o : Obj) : Rdr t (w.alloc o) B g zs i e := h.below ((Below.refl _ _).alloc (Nat.le_refl _) o)
theorem Rdr.far {k : Nat} (h : Rdr t w B g zs i e) (hg : w.grownBy w' (some k)) (hk : k ≠ g) (hB : B ≤ k) : Rdr t w' B g zs i e :=
  have hl := h.lt
  have hBg := h.low
  h.keep (fun j hj => hg.block j (by omega) (fun e => by injection e; omega)) (hg.block g hl (fun e => by injection e; omega))
theorem Rdr.place (h : Rdr t w B g zs i e) {j : Nat} (hj : j ≤ zs.length) : Rdr t (w.setCell ⟨g, 1, none⟩ (.int .i64 j)) B g zs j e := by
  obtain ⟨⟨A, n, c, hr, h1, h2, h3, hd⟩, ho, hi, hl, he⟩ := h
  exact ⟨⟨A, n, c, hr.put 1 _, h1, h2, h3, hd.keep fun k hk => Below.heap_setCell _ _ _ _ (by show k ≠ g; omega)⟩, ho, hj, hl, he⟩
theorem Rdr.wrong (h : Rdr t w B g zs i e) {y : Int} (hy : 0 ≤ y ∧ y ≤ 9) : Rdr t (w.setCell ⟨g, 2, none⟩ (.int .i64 y)) B g zs i y := by
  obtain ⟨⟨A, n, c, hr, h1, h2, h3, hd⟩, ho, hi, hl, he⟩ := h
  exact ⟨⟨A, n, c, hr.put 2 _, h1, h2, h3, hd.keep fun k hk => Below.heap_setCell _ _ _ _ (by show k ≠ g; omega)⟩, ho, hi, hl, hy⟩
/-- What a walk needs of a reader. -/
theorem Rdr.cells (h : Rdr t w B g zs i e) : ∃ A c, w.cell? ⟨g, 0, none⟩ = some (.slice A zs.length c) ∧ w.cell? ⟨g, 1, none⟩ = some (.int .i64 i) ∧ w.cell? ⟨g, 2, none⟩ = some (.int .i64 e) ∧
    w.frozen? ⟨g, 1, none⟩ = false ∧ w.frozen? ⟨g, 2, none⟩ = false ∧ zs.length ≤ c ∧ zs.length ≤ 4611686018427387904 ∧ Lies w A zs := by
  have hl := h.lt
  obtain ⟨⟨A, n, c, hr, rfl, h2, h3, hd⟩, ho, hi, hlo, he⟩ := h
  exact ⟨A, c, hr.cell 0, hr.cell 1, hr.cell 2, hr.free 1, hr.free 2, h2, h3, hd.lies (by omega)⟩
/-- The same, and where the bytes lie. -/
theorem Rdr.deeps (h : Rdr t w B g zs i e) : ∃ A c, w.cell? ⟨g, 0, none⟩ = some (.slice A zs.length c) ∧ w.cell? ⟨g, 1, none⟩ = some (.int .i64 i) ∧ w.cell? ⟨g, 2, none⟩ = some (.int .i64 e) ∧
    w.frozen? ⟨g, 1, none⟩ = false ∧ w.frozen? ⟨g, 2, none⟩ = false ∧ zs.length ≤ c ∧ zs.length ≤ 4611686018427387904 ∧ Deep w B A zs := by
  obtain ⟨⟨A, n, c, hr, rfl, h2, h3, hd⟩, ho, hi, hlo, he⟩ := h
  exact ⟨A, c, hr.cell 0, hr.cell 1, hr.cell 2, hr.free 1, hr.free 2, h2, h3, hd⟩
theorem Deep.far {A : Option Addr} {ys : List Int} (h : Deep w B A ys) (hg : w.grownBy w' (some g)) (hB : B ≤ g) (hl : g < w.heap.size) : Lies w' A ys :=
  (h.keep (w' := w') fun j hj => hg.block j (by omega) (fun e => by injection e; omega)).lies (by have := hg.size; omega)
end

/-! ### What each call comes to: the error, the answer, the place -/
def rNumE (zs : List Int) (i : Nat) (e : Int) : Int := if e = 0 then rdE (zs.drop i) else e
def rNumV (zs : List Int) (i : Nat) (e : Int) : Int := if rNumE zs i e = 0 then rdV (zs.drop i) else 0
def rNumA (zs : List Int) (i : Nat) (e : Int) : Nat := if rNumE zs i e = 0 then i + rdS (zs.drop i) else i
def cntE (ys : List Int) (m : Int) : Int := if rdE ys = 0 then (if rdV ys < 0 ∨ m < rdV ys then 2 else 0) else rdE ys
def cntV (ys : List Int) (m : Int) : Int := if cntE ys m = 0 then rdV ys else 0
def cntS (ys : List Int) (m : Int) : Nat := if cntE ys m = 0 then rdS ys else 0
/-- The first of two errors. -/
def erst (e y : Int) : Int := if e = 0 then y else e
theorem erst_zero (y : Int) : erst 0 y = y := by unfold erst; rw [if_pos rfl]
theorem erst_pos {e : Int} (h : e ≠ 0) (y : Int) : erst e y = e := by unfold erst; rw [if_neg h]
def rCntE (zs : List Int) (i : Nat) (e m : Int) : Int := if e = 0 then cntE (zs.drop i) m else e
def rCntV (zs : List Int) (i : Nat) (e m : Int) : Int := if rCntE zs i e m = 0 then rdV (zs.drop i) else 0
def rCntA (zs : List Int) (i : Nat) (e m : Int) : Nat := if rCntE zs i e m = 0 then i + rdS (zs.drop i) else i
def txtE (ys : List Int) (m : Int) : Int := if cntE ys m = 0 then (if (ys.length : Int) - (rdS ys : Nat) < rdV ys then 3 else 0) else cntE ys m
def rTxtE (zs : List Int) (i : Nat) (e m : Int) : Int := if e = 0 then txtE (zs.drop i) m else e
def rTxtV (zs : List Int) (i : Nat) (e m : Int) : List Int := if rTxtE zs i e m = 0 then ((zs.drop i).drop (rdS (zs.drop i))).take (rdV (zs.drop i)).toNat else []
def rTxtA (zs : List Int) (i : Nat) (e m : Int) : Nat := if rTxtE zs i e m = 0 then i + rdS (zs.drop i) + (rdV (zs.drop i)).toNat else i
def rFlgE (zs : List Int) (i : Nat) (e : Int) : Int := if e = 0 then (if i < zs.length then (if 1 < ix zs i then 4 else 0) else 3) else e
def rFlgV (zs : List Int) (i : Nat) (e : Int) : Bool := decide (rFlgE zs i e = 0 ∧ ix zs i = 1)
def rFlgA (zs : List Int) (i : Nat) (e : Int) : Nat := if rFlgE zs i e = 0 then i + 1 else i
def rEndE (zs : List Int) (i : Nat) (e : Int) : Int := if e = 0 then (if i < zs.length then 5 else 0) else e
def rFailE (e : Int) : Int := if e = 0 then 4 else e
/-- The bytes as a string. -/
def strOf (zs : List Int) : ByteArray := ⟨(zs.map fun z => UInt8.ofNat z.toNat).toArray⟩
theorem str_strL (s : ByteArray) : strOf (strL s) = s := by
  obtain ⟨l⟩ := s
  unfold strOf strL
  congr 1
  rw [List.map_map]
  apply Array.ext'
  rw [List.toList_toArray]
  have : ∀ bs : List UInt8, List.map ((fun z : Int => UInt8.ofNat z.toNat) ∘ fun b => (b.toNat : Int)) bs = bs := by
    intro bs
    induction bs with
    | nil => rfl
    | cons b bs ih => rw [List.map_cons, ih]; congr 1; simp
  exact this l.toList
theorem octets_drop {zs : List Int} (h : Octets zs) (k : Nat) : Octets (zs.drop k) := fun z hz => h z (List.mem_of_mem_drop hz)
theorem octets_take {zs : List Int} (h : Octets zs) (k : Nat) : Octets (zs.take k) := fun z hz => h z (List.mem_of_mem_take hz)
theorem cntE_bounds {ys : List Int} (ho : Octets ys) (m : Int) : 0 ≤ cntE ys m ∧ cntE ys m ≤ 4 := by
  have := rd_bounds ho
  unfold cntE; split
  · split <;> omega
  · omega
theorem txtE_bounds {ys : List Int} (ho : Octets ys) (m : Int) : 0 ≤ txtE ys m ∧ txtE ys m ≤ 4 := by
  have := cntE_bounds ho m
  unfold txtE; split
  · split <;> omega
  · omega
end Go.Proofs.Ytfihcgimgngmhaa
