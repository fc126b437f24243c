/- What Roomy and Intact come to. Conditions: the slices lie in memory, their lengths have room. -/
import Derived.Test.YtjkdccokiaejhaaQb
import Derived.Deep.DeepCutAuto
import Derived.Laws.CopyOwn
import Derived.Lib.AppendZerosOnto
import Derived.LoopTactic
import Derived.Test.YtjkdccokiaejhaaQa
import Derived.Laws.Strings
import Derived.Laws.Concat
import Derived.BigFrame
import Derived.Test.YtjkdccokiaejhaaRows
import Derived.WalkKit
import Derived.WalkSpells
import Derived.WalkLawsBesides
import Derived.BigQuiet
import Derived.Deep.QuietTactic
import Derived.Laws.StructEq
import Derived.Deep.RegionHeld3
import Derived.Deep.RegionWith
import Derived.Deep.Onto
import Derived.Deep.MidRow
import Derived.Deep.WholeRow
namespace Go.Proofs.Ytjkdccokiaejhaa
set_option maxRecDepth 100000
open Go.RowKit
theorem zeros_cells (n : Nat) : (madeCells #[Value.int .u8 0] n).toList = cellsOf (pad n 0) := by
  rw [toList_madeCells_one]; unfold cellsOf pad; rw [List.map_replicate]
theorem own_block {w : World} {base g n : Nat} {e : TypeId} {xs : List Value} (h : w.ownsRow base e 1 (.slice (some ⟨g, 0, none⟩) n n) n xs) : base ≤ g ∧ n ≤ maxLen ∧ xs.length = n ∧ w.heap[g]? = some (.cells xs.toArray e (0, 0)) := by
  have hl : xs.length = n := by have := h.1; omega
  rcases h.2 with ⟨h0, _⟩ | ⟨g', cap, cur, hv, hb, hh, _, hm, hs, ht⟩
  · cases h0
  · injection hv with h1 _ h3
    injection h1 with h1
    injection h1 with h1
    subst h1 h3
    refine ⟨hb, hm, hl, ?_⟩
    have : xs.toArray = cur := by
      rw [← ht, List.take_of_length_le (by rw [Array.length_toList, hs]; exact Nat.le_refl _)]
    rw [this]; exact hh
theorem block_own {w : World} {base g n : Nat} {e : TypeId} {xs : List Value} (hb : base ≤ g) (hm : n ≤ maxLen) (hl : xs.length = n) (h : w.heap[g]? = some (.cells xs.toArray e (0, 0))) : w.ownsRow base e 1 (.slice (some ⟨g, 0, none⟩) n n) n xs :=
  ⟨by omega, .inr ⟨g, n, xs.toArray, rfl, hb, h, Nat.le_refl _, hm, by simp; omega, by rw [List.take_of_length_le (by simp; omega)]⟩⟩
/-- copy of a slice that lies anywhere to the head of a row of the call's own. -/
theorem wpList_copy_lies {P : Program} {w : World} {ops : Array Oper} {rest : List Oper} {o : Oper} {a : Act} {Q : Exit → Act → World → Prop} (hgd : o.guard = none) (d s : Operand) (t : TypeId)
    (ho : o.op = .call { callee := .builtin .copy, args := #[d, s], argTypes := #[t, t] }) (e : TypeId) (hu : P.underlying t = some (.slice e)) (hsz : (P.info? e).map (·.size) = some 1)
    (base g n : Nat) (xs : List Int) (hd : a.eval d = .slice (some ⟨g, 0, none⟩) n n) (hown : w.ownsRow base e 1 (.slice (some ⟨g, 0, none⟩) n n) n (cellsOf xs))
    (A : Option Addr) (m c : Nat) (zs : List Int) (hs : a.eval s = .slice A m c) (hm : zs.length = m) (hl : Lies w A zs) (hfit : m ≤ n) (w0 : World) (hb : Below base w0 w)
    (h : ∀ w', w'.ownsRow base e 1 (.slice (some ⟨g, 0, none⟩) n n) n (cellsOf (zs ++ xs.drop m)) → Below base w0 w' → wpList P ops Q rest (a.put o.dst (goInt m)) w') : wpList P ops Q (o :: rest) a w := by
  obtain ⟨hbg, hmx, hlen, hblk⟩ := own_block hown
  have hlx : xs.length = n := by rw [length_cellsOf] at hlen; exact hlen
  refine wpList_copy_splice hgd d s t t ho e hu hsz _ A n n m c hd hs g 0 (cellsOf xs) e hblk (cellsOf zs) (by rw [length_cellsOf]; show zs.length = min m n; omega) ?_ (by rw [length_cellsOf, length_cellsOf]; omega) cellsOf_one base w0 hb hbg ?_
  · intro hpos
    rw [length_cellsOf] at hpos
    obtain ⟨b, off, rfl, _⟩ := hl hpos
    exact ⟨rfl, _, rfl, fun j v hj => Lies.cells hl j v hj⟩
  · intro w' hw hb'
    have hsp : splice (cellsOf xs) 0 (cellsOf zs) = cellsOf (zs ++ xs.drop m) := by
      unfold splice
      rw [cellsOf_append, List.take_zero, List.nil_append, length_cellsOf, Nat.zero_add, hm]
      unfold cellsOf
      rw [List.map_drop]
    have hw' := hw.out
    rw [hsp] at hw'
    rw [length_cellsOf, hm]
    exact h w' (block_own hbg hmx (by rw [length_cellsOf, List.length_append, List.length_drop]; omega) hw') hb'
theorem fill_step (zs : List Int) (z : Int) (j : Nat) (h : j < 80) : (zs ++ pad j z ++ pad (80 - j) 0).set (zs.length + j) z = zs ++ pad (j + 1) z ++ pad (80 - (j + 1)) 0 := by
  unfold pad
  have e : 80 - j = (80 - (j + 1)) + 1 := by omega
  rw [e, List.replicate_succ, List.set_append_right _ _ (by simp), List.replicate_succ']
  have e2 : zs.length + j - (zs ++ List.replicate j z).length = 0 := by simp
  rw [e2, List.set_cons_zero]
  simp
end Go.Proofs.Ytjkdccokiaejhaa
/- The writers, said for their callers: where the answer lies. Conditions: those of their contracts. -/
namespace Go.Proofs.Ytjkdccokiaejhaa
set_option maxRecDepth 100000
open Go.RowKit
/-- A slice of these n bytes, in new memory or nowhere. -/
def Made (w : World) (n : Nat) (zs : List Int) (e : Ending) (w' : World) : Prop :=
  ∃ A c, e = .returned (.slice A n c) ∧ n ≤ c ∧ Lies w' A zs ∧ (A = none → c = 0) ∧ Below w.heap.size w w'
theorem made_of {w w' : World} {n : Nat} {zs : List Int} {e : Ending} (h : ∃ v, e = .returned v ∧ w'.ownsRow w.heap.size 5 1 v n (cellsOf zs) ∧ Below w.heap.size w w') : Made w n zs e w' := by
  obtain ⟨v, he, ho, hb⟩ := h
  obtain ⟨A, c, rfl, hA⟩ : ∃ A c, v = .slice A n c ∧ (A = none → c = 0) := by
    rcases ho.2 with ⟨rfl, rfl⟩ | ⟨g, cap, cur, rfl, _⟩
    · exact ⟨none, 0, rfl, fun _ => rfl⟩
    · exact ⟨_, cap, rfl, fun h => by cases h⟩
  exact ⟨A, c, he, (own_len ho).2, Lies.of_own ho, hA, hb⟩
/-- A flag's byte. -/
def flag7 (f : Bool) : List Int := [if f then 1 else 0]
section
variable {A : Option Addr} {n c : Nat} {zs : List Int} {w : World}
end
theorem lit_lies (w : World) {zs : List Int} {cs : Array Value} (h : cs = (cellsOf zs).toArray) : Lies (w.alloc (.cells cs 5)) (some ⟨w.heap.size, 0, none⟩) zs := by
  subst h; exact lies_lit w zs 5 (0, 0)
end Go.Proofs.Ytjkdccokiaejhaa
/- What slices.Grow of nothing, and slices.Concat of two slices of bytes, come to. Conditions: the slices lie in memory, their lengths have room. -/
namespace Go.Proofs.Ytjkdccokiaejhaa
set_option maxRecDepth 100000
open Go.RowKit
/-- What is laid behind so many rounds. -/
def catN (n m : Nat) (k : Nat) : Nat := if k = 0 then 0 else if k = 1 then n else n + m
def catL (zs ys : List Int) (k : Nat) : List Int := if k = 0 then [] else if k = 1 then zs else zs ++ ys
/-- A row of these n bytes of the call's own. -/
def MadeO (w : World) (n : Nat) (zs : List Int) (e : Ending) (w' : World) : Prop := ∃ v, e = .returned v ∧ w'.ownsRow w.heap.size 5 1 v n (cellsOf zs) ∧ Below w.heap.size w w'
end Go.Proofs.Ytjkdccokiaejhaa
/- Texts in the order of their bytes, and spans of them, in plain words. No condition: nothing here speaks of a program. -/
namespace Go.Proofs.Ytjkdccokiaejhaa
set_option maxRecDepth 100000
open Go.RowKit
/-- Is the text below the other one. -/
def ltB (a b : ByteArray) : Bool := Op.bytesLess a.toList b.toList
/-- Is the text empty. -/
def nilB (a : ByteArray) : Bool := a.toList.isEmpty
/-- Are the texts the same. -/
def eqB (a b : ByteArray) : Bool := a.toList == b.toList
/-- The lowest text above k. -/
def nextT (k : ByteArray) : ByteArray := k ++ ⟨#[0]⟩
/-- Is the text below the bound, the empty bound being above all. -/
def inB (k h : ByteArray) : Bool := nilB h || ltB k h
/-- Is the one bound not above the other. -/
def endB (h m : ByteArray) : Bool := nilB m || (!nilB h && (ltB h m || eqB h m))
def emB (lo hi : ByteArray) : Bool := !inB lo hi
def hasB (lo hi k : ByteArray) : Bool := !ltB k lo && inB k hi
def meetB (la ha lb hb : ByteArray) : Bool := !emB la ha && (!emB lb hb && (inB la hb && inB lb ha))
def covB (la ha lb hb : ByteArray) : Bool := emB lb hb || (!ltB lb la && endB hb ha)
/-- The document's own. -/
def leB (a b : ByteArray) : Bool := ltB a b || eqB a b
def remB (lo hi : ByteArray) : Bool := !nilB hi && leB hi lo
def rhasB (lo hi k : ByteArray) : Bool := !ltB k lo && (nilB hi || ltB k hi)
def rmeetB (la ha lb hb : ByteArray) : Bool := !(remB la ha || remB lb hb) && ((nilB ha || ltB lb ha) && (nilB hb || ltB la hb))
def rcovB (la ha lb hb : ByteArray) : Bool := remB lb hb || (!ltB lb la && (nilB ha || (!nilB hb && leB hb ha)))
/-- The greater one. -/
def maxT (a b : ByteArray) : ByteArray := if ltB a b = true then b else a
/-- The lesser bound. -/
def minT (a b : ByteArray) : ByteArray := if endB a b = true then a else b
theorem run_max_texts {P : Program} (w : World) (ts : Array TypeId) (t : TypeId) (x y : ByteArray) : (Builtin.max_ ts t #[.string x, .string y]).run P w = .ok (.string (maxT x y)) w := by
  cases h : ltB x y <;> (unfold ltB at h; simp [Builtin.max_, Builtin.max2, Op.stringOp, asBool, maxT, ltB, h])
end Go.Proofs.Ytjkdccokiaejhaa
/- Commands in plain words: which may be, what they touch, which two clash; their bytes. No condition: nothing here speaks of a program. -/
namespace Go.Proofs.Ytjkdccokiaejhaa
set_option maxRecDepth 100000
open Go.RowKit
/-- No text. -/
def noT : ByteArray := ⟨#[]⟩
/-- The command that does nothing. -/
def zeroC : Cm := ⟨0, 0, 0, noT, noT, noT, noT⟩
/-- Are the commands the same. -/
def sameC (x y : Cm) : Bool := x.k == y.k && (x.c == y.c && (x.q == y.q && (eqB x.key y.key && (eqB x.en y.en && (eqB x.old y.old && eqB x.val y.val)))))
/-- What the kind names. -/
def namedC (x : Cm) : Cm :=
  if x.k = 1 ∨ x.k = 3 then ⟨x.k, x.c, x.q, x.key, noT, noT, noT⟩
  else if x.k = 2 then ⟨x.k, x.c, x.q, x.key, noT, noT, x.val⟩
  else if x.k = 4 then ⟨x.k, x.c, x.q, x.key, noT, x.old, x.val⟩
  else if x.k = 5 then ⟨x.k, x.c, x.q, x.key, x.en, noT, noT⟩
  else zeroC
/-- Within the limits. -/
def boundC (x : Cm) : Bool :=
  !(nilB x.key && decide (x.k ≠ 5)) && (decide (1 ≤ x.c) && (decide (x.c ≤ 8) && (decide (1 ≤ x.q) && (decide (x.q ≤ 1099511627776) &&
    (decide (x.key.size ≤ 16 ∧ x.en.size ≤ 16) && decide (x.old.size ≤ 64 ∧ x.val.size ≤ 64))))))
def rightC (x : Cm) : Bool := if x.k = 0 then sameC x zeroC else sameC x (namedC x) && boundC x
/-- Does it touch keys; from where; to where. -/
def hasC (k : Int) : Bool := decide (1 ≤ k) && decide (k ≤ 5)
def loC (x : Cm) : ByteArray := if hasC x.k then x.key else noT
def hiC (x : Cm) : ByteArray := if hasC x.k then (if x.k = 5 then x.en else nextT x.key) else noT
def writesC (k : Int) : Bool := decide (2 ≤ k) && decide (k ≤ 4)
def clashC (x y : Cm) : Bool := (hasC x.k && hasC y.k) && (x.c == y.c || ((writesC x.k || writesC y.k) && meetB (loC x) (hiC x) (loC y) (hiC y)))
theorem eqB_self (a : ByteArray) : eqB a a = true := by simp [eqB]
theorem eqB_iff {a b : ByteArray} : eqB a b = true ↔ a = b := by
  unfold eqB
  rw [beq_iff_eq]
  constructor
  · intro h
    rw [ByteArray.toList_eq, ByteArray.toList_eq] at h
    obtain ⟨⟨x⟩⟩ := a
    obtain ⟨⟨y⟩⟩ := b
    exact congrArg (fun l => (⟨⟨l⟩⟩ : ByteArray)) h
  · rintro rfl; rfl
theorem sameC_iff {x y : Cm} : sameC x y = true ↔ x = y := by
  obtain ⟨k, c, q, a, b, o, v⟩ := x
  obtain ⟨k', c', q', a', b', o', v'⟩ := y
  unfold sameC
  simp only [Bool.and_eq_true, beq_iff_eq, eqB_iff, Cm.mk.injEq]
theorem nilB_iff {a : ByteArray} : nilB a = true ↔ a = noT := by
  unfold nilB noT
  rw [List.isEmpty_iff, ByteArray.toList_eq]
  obtain ⟨⟨x⟩⟩ := a
  constructor
  · intro h; exact congrArg (fun l => (⟨⟨l⟩⟩ : ByteArray)) h
  · intro h; exact congrArg (fun l : ByteArray => l.data.toList) h
end Go.Proofs.Ytjkdccokiaejhaa
/- What the functions of package span come to. No condition. -/
namespace Go.Proofs.Ytjkdccokiaejhaa
set_option maxRecDepth 100000
open Go.RowKit
/-- Block g holds a span. -/
structure Two (w : World) (g : Nat) (x y : ByteArray) : Prop where
  c0 : w.cell? ⟨g, 0, none⟩ = some (.string x)
  c1 : w.cell? ⟨g, 1, none⟩ = some (.string y)
  lt : g < w.heap.size
theorem Two.kept {w w' : World} {g : Nat} {x y : ByteArray} (h : Two w g x y) (hb : Below w.heap.size w w') : Two w' g x y :=
  ⟨(hb.cell (p := ⟨g, 0, none⟩) h.lt).trans h.c0, (hb.cell (p := ⟨g, 1, none⟩) h.lt).trans h.c1, Nat.lt_of_lt_of_le h.lt hb.size⟩
theorem Two.drew {w : World} {g : Nat} {x y : ByteArray} (h : Two w g x y) : Two w.drew g x y := ⟨h.c0, h.c1, h.lt⟩
theorem Two.new (w : World) (x y : ByteArray) (t : TypeId) : Two (w.alloc (.cells #[.string x, .string y] t)) w.heap.size x y :=
  ⟨by simp [World.cell?_alloc_new], by simp [World.cell?_alloc_new], by simp⟩
/-- Three spans lie in the call's own memory, and what was there is as it was. -/
structure St (W w : World) (k l m : Nat) (a b c d e f : ByteArray) : Prop where
  one : Two w k a b
  two : Two w l c d
  three : Two w m e f
  old : Below W.heap.size W w
section
variable {W w w' : World} {k l m : Nat} {a b c d e f : ByteArray}
theorem St.drew (h : St W w k l m a b c d e f) : St W w.drew k l m a b c d e f := ⟨h.one.drew, h.two.drew, h.three.drew, h.old.drew⟩
theorem St.step (h : St W w k l m a b c d e f) (g : Below w.heap.size w w') : St W w' k l m a b c d e f := ⟨h.one.kept g, h.two.kept g, h.three.kept g, h.old.trans (g.mono h.old.size)⟩
/-- A call that makes memory leaves the spans. -/
theorem St.call {P : Program} {F : FuncId} {args : Array Value} {v : Value} (h : St W w k l m a b c d e f) (hf : Calls P F args w fun x w' => x = .returned v ∧ Below w.heap.size w w') :
    Calls P F args w fun x w' => x = .returned v ∧ w'.cell? ⟨k, 0, none⟩ = some (.string a) ∧ w'.cell? ⟨k, 1, none⟩ = some (.string b) ∧ w'.cell? ⟨l, 0, none⟩ = some (.string c) ∧ w'.cell? ⟨l, 1, none⟩ = some (.string d) ∧
      w'.cell? ⟨m, 0, none⟩ = some (.string e) ∧ w'.cell? ⟨m, 1, none⟩ = some (.string f) ∧ St W w' k l m a b c d e f :=
  hf.mono fun _ _ ⟨he, hb⟩ => have g := h.step hb; ⟨he, g.one.c0, g.one.c1, g.two.c0, g.two.c1, g.three.c0, g.three.c1, g⟩
end
theorem old_call {P : Program} {F : FuncId} {args : Array Value} {v : Value} {W w : World} (h : Below W.heap.size W w) (hf : Calls P F args w fun x w' => x = .returned v ∧ Below w.heap.size w w') :
    Calls P F args w fun x w' => x = .returned v ∧ Below W.heap.size W w' := hf.mono fun _ _ ⟨he, hb⟩ => ⟨he, h.trans (hb.mono h.size)⟩
/-- Two spans that were just laid. -/
theorem St.start (W : World) (a b c d : ByteArray) (t : TypeId) : St W ((W.alloc (.cells #[.string a, .string b] t)).alloc (.cells #[.string c, .string d] t)) W.heap.size (W.heap.size + 1) (W.heap.size + 1) a b c d c d := by
  have h1 := (Two.new W a b t).kept ((Below.refl _ _).alloc (Nat.le_refl _) (.cells #[.string c, .string d] t))
  have h2 := Two.new (W.alloc (.cells #[.string a, .string b] t)) c d t
  simp only [World.size_alloc] at h2
  exact ⟨h1, h2, h2, ((Below.refl _ _).alloc (Nat.le_refl _) _).alloc (by simp) _⟩
end Go.Proofs.Ytjkdccokiaejhaa
/- What the small functions of package cmd come to. No condition. -/
namespace Go.Proofs.Ytjkdccokiaejhaa
set_option maxRecDepth 100000
open Go.RowKit
theorem eql_cmd (k c q : Int) (a b o v : ByteArray) (k' c' q' : Int) (a' b' o' v' : ByteArray) (w : World) :
    (binOp .eql 32 (.agg #[.int .i64 k, .int .i64 c, .int .i64 q, .string a, .string b, .string o, .string v]) (.agg #[.int .i64 k', .int .i64 c', .int .i64 q', .string a', .string b', .string o', .string v'])).run Try.prog w =
      .ok (.bool (sameC ⟨k, c, q, a, b, o, v⟩ ⟨k', c', q', a', b', o', v'⟩)) w := by
  have u3 := Try.underlying3
  have a3 := Try.isAgg3
  have z3 := Try.sizeOf3
  have u9 := Try.underlying9
  have a9 := Try.isAgg9
  have z9 := Try.sizeOf9
  have hS : Try.prog.underlying 32 = some (.struct (Try.prog.fieldsOf 32)) := by kernel_rfl
  have hp : Try.prog.stoodInHeld 32 = false := by kernel_rfl
  rw [run_eql_struct, show (10000 : Nat) = 9999 + 1 from rfl, run_equalIn_agg w 9999 32 _ _ hS hp]
  simp only [Program.fieldsOf, Try.underlying32]
  go_simp
  unfold sameC eqB
  cases h1 : (k == k') <;> simp_all
  cases h2 : (c == c') <;> simp_all
  cases h3 : (q == q') <;> simp_all
  cases h4 : (a.toList == a'.toList) <;> simp_all
  cases h5 : (b.toList == b'.toList) <;> simp_all
  cases h6 : (o.toList == o'.toList) <;> simp_all
  cases h7 : (v.toList == v'.toList) <;> simp_all
theorem kinds5 (k : Int) : k = 1 ∨ k = 2 ∨ k = 3 ∨ k = 4 ∨ k = 5 ∨ ((k == 1) = false ∧ (k == 2) = false ∧ (k == 3) = false ∧ (k == 4) = false ∧ (k == 5) = false) := by
  simp only [beq_eq_false_iff_ne]; omega
/-- The command's value. -/
def valC (x : Cm) : Value := .agg #[.int .i64 x.k, .int .i64 x.c, .int .i64 x.q, .string x.key, .string x.en, .string x.old, .string x.val]
theorem bit_alloc {B : Nat} {a w : World} (h : Below B a w) (hB : B ≤ a.heap.size) (o : Obj) : Below B a (w.alloc o) := h.alloc (Nat.le_trans hB h.size) o
end Go.Proofs.Ytjkdccokiaejhaa
/- What Keys and bounded of package cmd come to. Conditions: the key has room. -/
namespace Go.Proofs.Ytjkdccokiaejhaa
set_option maxRecDepth 100000
open Go.RowKit
theorem row_two {w : World} {g : Nat} {t : TypeId} {x y : Value} (h : Row w g t #[x, y]) : w.cell? ⟨g, 0, none⟩ = some x ∧ w.cell? ⟨g, 1, none⟩ = some y ∧ w.frozen? ⟨g, 0, none⟩ = false ∧ w.frozen? ⟨g, 1, none⟩ = false :=
  ⟨h.cell 0, h.cell 1, h.free 0, h.free 1⟩
/-- A block just laid, behind a call. -/
theorem row_at {w w' : World} {g : Nat} {t : TypeId} {cs : Array Value} (hb : Below (g + 1) (w.alloc (.cells cs t)) w') (hg : w.heap.size = g) : Row w' g t cs := by
  subst hg; exact (Row.new w t cs).below hb (by omega)
theorem two_more {w w' : World} {x y : Obj} (hb : Below (w.heap.size + 1 + 1) ((w.alloc x).alloc y) w') : Below w.heap.size w w' :=
  (((Below.refl _ _).alloc (Nat.le_refl _) x).alloc (by simp) y).trans (hb.mono (by omega))
theorem kinds51 (k : Int) : (k = 1 ∨ k = 2 ∨ k = 3 ∨ k = 4) ∨ k = 5 ∨ ((k == 1) = false ∧ (k == 2) = false ∧ (k == 3) = false ∧ (k == 4) = false ∧ (k == 5) = false) := by
  simp only [beq_eq_false_iff_ne]; omega
theorem hasC_no {k : Int} (k1 : (k == 1) = false) (k2 : (k == 2) = false) (k3 : (k == 3) = false) (k4 : (k == 4) = false) (k5 : (k == 5) = false) : hasC k = false := by
  simp only [beq_eq_false_iff_ne] at k1 k2 k3 k4 k5
  unfold hasC
  rw [Bool.and_eq_false_iff, decide_eq_false_iff_not, decide_eq_false_iff_not]; omega
/-- A span and a flag. -/
def keysV (x : Cm) : Value := .tuple #[.agg #[.string (loC x), .string (hiC x)], .bool (hasC x.k)]
theorem keys_no {x : Cm} (h : hasC x.k = false) : keysV x = .tuple #[.agg #[.string noT, .string noT], .bool false] := by
  unfold keysV loC hiC; rw [h]; rfl
/-- The greater of two numbers is within just if both are. -/
theorem most_le (x y z : Int) : decide ((if y > x then y else x) ≤ z) = decide (x ≤ z ∧ y ≤ z) := by
  split
  all_goals (apply decide_eq_decide.2; omega)
end Go.Proofs.Ytjkdccokiaejhaa
/- What Right and Clash of package cmd come to. Conditions: the keys have room. -/
namespace Go.Proofs.Ytjkdccokiaejhaa
set_option maxRecDepth 100000
open Go.RowKit
/-- Block g holds a command. -/
structure Seven (w : World) (g : Nat) (x : Cm) : Prop where
  c0 : w.cell? ⟨g, 0, none⟩ = some (.int .i64 x.k)
  c1 : w.cell? ⟨g, 1, none⟩ = some (.int .i64 x.c)
  c2 : w.cell? ⟨g, 2, none⟩ = some (.int .i64 x.q)
  c3 : w.cell? ⟨g, 3, none⟩ = some (.string x.key)
  c4 : w.cell? ⟨g, 4, none⟩ = some (.string x.en)
  c5 : w.cell? ⟨g, 5, none⟩ = some (.string x.old)
  c6 : w.cell? ⟨g, 6, none⟩ = some (.string x.val)
/-- What lies at g, as cells. -/
def rowC (x : Cm) : Array Value := #[.int .i64 x.k, .int .i64 x.c, .int .i64 x.q, .string x.key, .string x.en, .string x.old, .string x.val]
theorem seven_of {w : World} {g : Nat} {t : TypeId} {x : Cm} (h : Row w g t (rowC x)) : Seven w g x := ⟨h.cell 0, h.cell 1, h.cell 2, h.cell 3, h.cell 4, h.cell 5, h.cell 6⟩
theorem Seven.kept {w w' : World} {g : Nat} {x : Cm} (h : Seven w g x) (hb : Below (g + 1) w w') : Seven w' g x :=
  ⟨(hb.cell (p := ⟨g, 0, none⟩) (Nat.lt_succ_self g)).trans h.c0, (hb.cell (p := ⟨g, 1, none⟩) (Nat.lt_succ_self g)).trans h.c1, (hb.cell (p := ⟨g, 2, none⟩) (Nat.lt_succ_self g)).trans h.c2, (hb.cell (p := ⟨g, 3, none⟩) (Nat.lt_succ_self g)).trans h.c3,
    (hb.cell (p := ⟨g, 4, none⟩) (Nat.lt_succ_self g)).trans h.c4, (hb.cell (p := ⟨g, 5, none⟩) (Nat.lt_succ_self g)).trans h.c5, (hb.cell (p := ⟨g, 6, none⟩) (Nat.lt_succ_self g)).trans h.c6⟩
theorem Seven.drew {w : World} {g : Nat} {x : Cm} (h : Seven w g x) : Seven w.drew g x := ⟨h.c0, h.c1, h.c2, h.c3, h.c4, h.c5, h.c6⟩
/-- A command that was just boxed, and what was there. -/
structure Boxed (W w : World) (x : Cm) : Prop where
  c : Seven w W.heap.size x
  old : Below W.heap.size W w
  lt : W.heap.size < w.heap.size
theorem Boxed.start (W : World) (x : Cm) (t : TypeId) : Boxed W (W.alloc (.cells (rowC x) t)) x := ⟨seven_of (Row.new W t (rowC x)), (Below.refl _ _).alloc (Nat.le_refl _) _, by simp⟩
theorem Boxed.drew {W w : World} {x : Cm} (h : Boxed W w x) : Boxed W w.drew x := ⟨h.c.drew, h.old.drew, h.lt⟩
theorem Boxed.step {W w w' : World} {x : Cm} (h : Boxed W w x) (hb : Below w.heap.size w w') : Boxed W w' x := ⟨h.c.kept (hb.mono h.lt), h.old.trans (hb.mono h.old.size), Nat.lt_of_lt_of_le h.lt hb.size⟩
/-- A call that makes memory leaves it. -/
theorem Boxed.call {P : Program} {F : FuncId} {args : Array Value} {v : Value} {W w : World} {x : Cm} (h : Boxed W w x) (hf : Calls P F args w fun e w' => e = .returned v ∧ Below w.heap.size w w') :
    Calls P F args w fun e w' => e = .returned v ∧ w'.cell? ⟨W.heap.size, 0, none⟩ = some (.int .i64 x.k) ∧ w'.cell? ⟨W.heap.size, 1, none⟩ = some (.int .i64 x.c) ∧ w'.cell? ⟨W.heap.size, 2, none⟩ = some (.int .i64 x.q) ∧
      w'.cell? ⟨W.heap.size, 3, none⟩ = some (.string x.key) ∧ w'.cell? ⟨W.heap.size, 4, none⟩ = some (.string x.en) ∧ w'.cell? ⟨W.heap.size, 5, none⟩ = some (.string x.old) ∧ w'.cell? ⟨W.heap.size, 6, none⟩ = some (.string x.val) ∧ Boxed W w' x :=
  hf.mono fun _ _ ⟨he, hb⟩ => have g := h.step hb; ⟨he, g.c.c0, g.c.c1, g.c.c2, g.c.c3, g.c.c4, g.c.c5, g.c.c6, g⟩
end Go.Proofs.Ytjkdccokiaejhaa
/- What Clash of package cmd comes to. Conditions: the keys have room. -/
namespace Go.Proofs.Ytjkdccokiaejhaa
set_option maxRecDepth 100000
open Go.RowKit
/-- Two commands that were just boxed, and what was there. -/
structure Both (W w : World) (x y : Cm) : Prop where
  a : Seven w W.heap.size x
  b : Seven w (W.heap.size + 1) y
  old : Below W.heap.size W w
  lt : W.heap.size + 1 < w.heap.size
theorem Both.start (W : World) (x y : Cm) (t : TypeId) : Both W ((W.alloc (.cells (rowC x) t)).alloc (.cells (rowC y) t)) x y :=
  ⟨(seven_of (Row.new W t (rowC x))).kept ((Below.refl _ _).alloc (by simp) _), by have := seven_of (Row.new (W.alloc (.cells (rowC x) t)) t (rowC y)); simpa using this, ((Below.refl _ _).alloc (Nat.le_refl _) _).alloc (by simp) _, by simp⟩
theorem Both.step {W w w' : World} {x y : Cm} (h : Both W w x y) (hb : Below w.heap.size w w') : Both W w' x y :=
  ⟨h.a.kept (hb.mono (by have := h.lt; omega)), h.b.kept (hb.mono h.lt), h.old.trans (hb.mono h.old.size), Nat.lt_of_lt_of_le h.lt hb.size⟩
/-- Behind Keys of the first. -/
structure Both1 (W w : World) (x y : Cm) (g : Nat) (l h : ByteArray) : Prop where
  s : Both W w x y
  t : Two w g l h
theorem Both1.step {W w w' : World} {x y : Cm} {g : Nat} {l h : ByteArray} (s : Both1 W w x y g l h) (hb : Below w.heap.size w w') : Both1 W w' x y g l h := ⟨s.s.step hb, s.t.kept hb⟩
structure Both2 (W w : World) (x y : Cm) (g : Nat) (l h : ByteArray) (g' : Nat) (l' h' : ByteArray) : Prop where
  s : Both1 W w x y g l h
  t : Two w g' l' h'
theorem Both2.step {W w w' : World} {x y : Cm} {g : Nat} {l h : ByteArray} {g' : Nat} {l' h' : ByteArray} (s : Both2 W w x y g l h g' l' h') (hb : Below w.heap.size w w') : Both2 W w' x y g l h g' l' h' := ⟨s.s.step hb, s.t.kept hb⟩
/-- What a walk needs of it. -/
def Cells7 (w : World) (g : Nat) (x : Cm) : Prop := w.cell? ⟨g, 0, none⟩ = some (.int .i64 x.k) ∧ w.cell? ⟨g, 1, none⟩ = some (.int .i64 x.c) ∧ w.cell? ⟨g, 2, none⟩ = some (.int .i64 x.q) ∧ w.cell? ⟨g, 3, none⟩ = some (.string x.key) ∧ w.cell? ⟨g, 4, none⟩ = some (.string x.en) ∧
  w.cell? ⟨g, 5, none⟩ = some (.string x.old) ∧ w.cell? ⟨g, 6, none⟩ = some (.string x.val)
theorem Seven.cells {w : World} {g : Nat} {x : Cm} (h : Seven w g x) : Cells7 w g x := ⟨h.c0, h.c1, h.c2, h.c3, h.c4, h.c5, h.c6⟩
/-- A call that makes memory leaves all of it. -/
theorem Both2.call {P : Program} {F : FuncId} {args : Array Value} {u : Value} {W w : World} {x y : Cm} {g : Nat} {l h : ByteArray} {g' : Nat} {l' h' : ByteArray} (s : Both2 W w x y g l h g' l' h') (hf : Calls P F args w fun e w' => e = .returned u ∧ Below w.heap.size w w') :
    Calls P F args w fun e w' => e = .returned u ∧ Cells7 w' W.heap.size x ∧ Cells7 w' (W.heap.size + 1) y ∧ (w'.cell? ⟨g, 0, none⟩ = some (.string l) ∧ w'.cell? ⟨g, 1, none⟩ = some (.string h) ∧ w'.cell? ⟨g', 0, none⟩ = some (.string l') ∧ w'.cell? ⟨g', 1, none⟩ = some (.string h')) ∧ Both2 W w' x y g l h g' l' h' :=
  hf.mono fun _ _ ⟨he, hb⟩ => have z := s.step hb; ⟨he, z.s.s.a.cells, z.s.s.b.cells, ⟨z.s.t.c0, z.s.t.c1, z.t.c0, z.t.c1⟩, z⟩
end Go.Proofs.Ytjkdccokiaejhaa
/- What packed and Put of package cmd come to: a command's bytes. Conditions: the slice lies in memory, its length has room. -/
namespace Go.Proofs.Ytjkdccokiaejhaa
set_option maxRecDepth 100000
open Go.RowKit
/-- What a kind adds. -/
def tailC (x : Cm) : List Int := if x.k = 2 then text7 x.val else if x.k = 4 then text7 x.old ++ text7 x.val else if x.k = 5 then text7 x.en else []
/-- A command's bytes. -/
def bytesC (x : Cm) : List Int := if x.k = 0 then num7 0 else num7 x.k ++ num7 x.c ++ num7 x.q ++ text7 x.key ++ tailC x
def packC (x : Cm) : List Int := if rightC x then bytesC x else []
theorem right_kind {x : Cm} (h : rightC x = true) (h0 : x.k ≠ 0) : x = namedC x ∧ boundC x = true ∧ 1 ≤ x.k ∧ x.k ≤ 5 := by
  unfold rightC at h
  rw [if_neg h0, Bool.and_eq_true, sameC_iff] at h
  refine ⟨h.1, h.2, ?_⟩
  by_cases h5 : 1 ≤ x.k ∧ x.k ≤ 5
  · exact h5
  · have e : namedC x = zeroC := by
      unfold namedC
      rw [if_neg (by omega), if_neg (by omega), if_neg (by omega), if_neg (by omega)]
    rw [e] at h
    exact absurd (congrArg Cm.k h.1) h0
theorem right_zero {x : Cm} (h : rightC x = true) (h0 : x.k = 0) : x = zeroC := by
  unfold rightC at h
  rw [if_pos h0, sameC_iff] at h
  exact h
theorem bound_says {x : Cm} (h : boundC x = true) : 1 ≤ x.c ∧ x.c ≤ 8 ∧ 1 ≤ x.q ∧ x.q ≤ 1099511627776 ∧ x.key.size ≤ 16 ∧ x.en.size ≤ 16 ∧ x.old.size ≤ 64 ∧ x.val.size ≤ 64 := by
  unfold boundC at h
  simp only [Bool.and_eq_true, decide_eq_true_eq] at h
  omega
/-- A command boxed, and a slice of the call's own. -/
structure Pk (W w : World) (x : Cm) (A : Option Addr) (n c : Nat) (zs : List Int) : Prop where
  b : Boxed W w x
  l : Lies w A zs
  len : zs.length = n
  cap : n ≤ c
  nil : A = none → c = 0
section
variable {W w : World} {x : Cm} {A : Option Addr} {n c : Nat} {zs : List Int}
theorem Pk.drew (p : Pk W w x A n c zs) : Pk W w.drew x A n c zs := ⟨p.b.drew, p.l.drew, p.len, p.cap, p.nil⟩
theorem Pk.made (p : Pk W w x A n c zs) {n' : Nat} {ys : List Int} (hy : zs = ys) (hn : n = n') : Made W n' ys (.returned (.slice A n c)) w := by
  subst hy hn; exact ⟨A, c, rfl, p.cap, p.l, p.nil, p.b.old⟩
end
theorem len7 (n : Int) : (num7 n).length ≤ 10 := (num7_len n).2
theorem lent (s : ByteArray) (h : s.size ≤ 64) : (text7 s).length ≤ 74 := by rw [text7_len]; have := len7 (s.size : Int); omega
theorem packC_len (x : Cm) : (packC x).length ≤ 300 := by
  unfold packC
  cases hr : rightC x
  · simp
  · rw [if_pos rfl]
    unfold bytesC
    by_cases h0 : x.k = 0
    · rw [if_pos h0]; have := len7 0; omega
    · rw [if_neg h0]
      obtain ⟨_, hb, _⟩ := right_kind hr h0
      obtain ⟨_, _, _, _, ba, bb, bo, bv⟩ := bound_says hb
      have h1 := len7 x.k
      have h2 := len7 x.c
      have h3 := len7 x.q
      have h4 := lent x.key (by omega)
      have h5 := lent x.en (by omega)
      have h6 := lent x.old bo
      have h7 := lent x.val bv
      have ht : (tailC x).length ≤ 148 := by
        unfold tailC
        split
        · omega
        · split
          · rw [List.length_append]; omega
          · split
            · omega
            · simp
      simp only [List.length_append]
      omega
end Go.Proofs.Ytjkdccokiaejhaa
/- Cells and letters, in plain words: which may be, their bytes, what is read of bytes. No condition: nothing here speaks of a program. -/
namespace Go.Proofs.Ytjkdccokiaejhaa
open Go.RowKit
/-- A cell. -/
structure Cl where
  st : Int
  p : Int × Int
  v : Int × Int
  c : Cm
  a : List Int
  s : Bool
/-- A letter. -/
structure Lt where
  k : Int
  f : Int
  t : Int
  i : Int × Int
  b : Int × Int
  c : Cm
  a : List Int
  x : Cl
  d : List Int
  z : ByteArray
def zero7 : List Int := [0, 0, 0, 0, 0, 0, 0]
def zeroCl : Cl := ⟨0, (0, 0), (0, 0), zeroC, zero8, false⟩
def zeroLt : Lt := ⟨0, 0, 0, (0, 0), (0, 0), zeroC, zero8, zeroCl, zero7, noT⟩
def rightAl (a : List Int) : Bool := rightA (ix a 0) a.tail
def sameP (x y : Int × Int) : Bool := x.1 == y.1 && x.2 == y.2
def sameCl (x y : Cl) : Bool := x.st == y.st && (sameP x.p y.p && (sameP x.v y.v && (sameC x.c y.c && (decide (x.a = y.a) && x.s == y.s))))
theorem sameP_iff {x y : Int × Int} : sameP x y = true ↔ x = y := by
  obtain ⟨a, b⟩ := x
  obtain ⟨c, d⟩ := y
  unfold sameP
  simp
theorem sameCl_iff {x y : Cl} : sameCl x y = true ↔ x = y := by
  obtain ⟨s, p, v, c, a, b⟩ := x
  obtain ⟨s', p', v', c', a', b'⟩ := y
  unfold sameCl
  simp only [Bool.and_eq_true, sameP_iff, sameC_iff, decide_eq_true_eq, beq_iff_eq, Cl.mk.injEq]
/-- P15.1. -/
def rightCl (x : Cl) : Bool :=
  (decide (0 ≤ x.st) && decide (x.st ≤ 3)) && (rightB x.p.1 x.p.2 && (rightB x.v.1 x.v.2 && (rightC x.c && (rightAl x.a && (!ltP x.p x.v &&
    ((!x.s || (x.st == 1 && sameP x.v (0, 0))) && (!(x.st == 0) || (sameC x.c zeroC && (decide (x.a = zero8) && sameP x.v (0, 0))))))))))
/-- What a kind names. -/
def nmI (k : Int) : Bool := decide (k < 9)
def nmB (k : Int) : Bool := decide (k < 9) && !(k == 5)
def nmC (k : Int) : Bool := k == 1 || (k == 3 || k == 5)
def nmA (k : Int) : Bool := nmC k || k == 2
def nmX (k : Int) : Bool := k == 7
def nmD (k : Int) : Bool := k == 9 || k == 11
def nmZ (k : Int) : Bool := k == 10
/-- A letter with nothing but what its kind names. -/
def bareL (m : Lt) : Lt := ⟨m.k, m.f, m.t, if nmI m.k then m.i else (0, 0), if nmB m.k then m.b else (0, 0), if nmC m.k then m.c else zeroC, if nmA m.k then m.a else zero8,
  if nmX m.k then m.x else zeroCl, if nmD m.k then m.d else zero7, if nmZ m.k then m.z else noT⟩
def sameLt (x y : Lt) : Bool := x.k == y.k && (x.f == y.f && (x.t == y.t && (sameP x.i y.i && (sameP x.b y.b && (sameC x.c y.c && (decide (x.a = y.a) && (sameCl x.x y.x && (decide (x.d = y.d) && eqB x.z y.z))))))))
theorem sameLt_iff {x y : Lt} : sameLt x y = true ↔ x = y := by
  obtain ⟨k, f, t, i, b, c, a, u, d, z⟩ := x
  obtain ⟨k', f', t', i', b', c', a', u', d', z'⟩ := y
  unfold sameLt
  simp only [Bool.and_eq_true, sameP_iff, sameC_iff, sameCl_iff, decide_eq_true_eq, beq_iff_eq, eqB_iff, Lt.mk.injEq]
/-- P15.2. -/
def rightLt (m : Lt) : Bool :=
  (decide (1 ≤ m.k) && decide (m.k ≤ 11)) && (repB m.f && (repB m.t && (!(m.f == m.t) && ((!nmI m.k || (rightI m.i.1 m.i.2 && rightB m.b.1 m.b.2)) && (sameLt m (bareL m) &&
    (rightC m.c && (rightAl m.a && (rightCl m.x && (rightD m.d && decide (m.z.size ≤ 16384))))))))))
/-! ### Bytes -/
def encB (b : Int × Int) : List Int := num7 b.1 ++ num7 b.2
def encT (x : Cl) : List Int := if x.st = 0 then [] else encB x.v ++ (packC x.c ++ (encN x.a ++ flg7 x.s))
/-- P15.3: a cell's bytes. -/
def encX (x : Cl) : List Int := num7 x.st ++ (encB x.p ++ encT x)
def encCl (x : Cl) : List Int := if rightCl x then encX x else []
/-- What stands behind the ballot. -/
def encR (m : Lt) : List Int :=
  (if nmC m.k then packC m.c else []) ++ ((if nmA m.k then encN m.a else []) ++ ((if nmX m.k then encX m.x else []) ++ ((if nmD m.k then encN m.d else []) ++ (if nmZ m.k then text7 m.z else []))))
def encM (m : Lt) : List Int := num7 m.k ++ (num7 m.f ++ (num7 m.t ++ ((if nmI m.k then encB m.i else []) ++ ((if nmB m.k then encB m.b else []) ++ encR m))))
/-- P15.4: a letter's bytes. -/
def encLt (m : Lt) : List Int := if rightLt m then encM m else []
/-! ### What is read -/
def dBal (zs : List Int) (i : Nat) : Rdm (Int × Int) := bnd (dNum zs i) fun e j => bnd (dNum zs j) fun r j => .ok ((e, r), j)
def dNums (zs : List Int) : Nat → Nat → Rdm (List Int)
  | 0, i => .ok ([], i)
  | n + 1, i => bnd (dNum zs i) fun x j => bnd (dNums zs n j) fun l j => .ok (x :: l, j)
def dChk {α : Type} (b : α → Bool) (x : Rdm α) : Rdm α := bnd x fun a j => if b a then .ok (a, j) else .error 4
def dCm0 (zs : List Int) (i : Nat) : Rdm Cm := bnd (dNum zs i) fun k j => if k = 0 then .ok (zeroC, j) else
  bnd (dNum zs j) fun c j => bnd (dNum zs j) fun q j => bnd (dTxt zs 16 j) fun a j =>
    if k = 2 then bnd (dTxt zs 64 j) fun v j => .ok (⟨k, c, q, a, noT, noT, v⟩, j)
    else if k = 4 then bnd (dTxt zs 64 j) fun o j => bnd (dTxt zs 64 j) fun v j => .ok (⟨k, c, q, a, noT, o, v⟩, j)
    else if k = 5 then bnd (dTxt zs 16 j) fun b j => .ok (⟨k, c, q, a, b, noT, noT⟩, j)
    else .ok (⟨k, c, q, a, noT, noT, noT⟩, j)
def dCm (zs : List Int) (i : Nat) : Rdm Cm := dChk rightC (dCm0 zs i)
def dAt (zs : List Int) (i : Nat) : Rdm (List Int) := dChk rightAl (dNums zs 8 i)
def dCl0 (zs : List Int) (i : Nat) : Rdm Cl := bnd (dNum zs i) fun st j => bnd (dBal zs j) fun p j => if st = 0 then .ok (⟨st, p, (0, 0), zeroC, zero8, false⟩, j) else
  bnd (dBal zs j) fun v j => bnd (dCm zs j) fun c j => bnd (dAt zs j) fun a j => bnd (dFlg zs j) fun s j => .ok (⟨st, p, v, c, a, s⟩, j)
/-- P15.3: GetCell. -/
def dCl (zs : List Int) (i : Nat) : Rdm Cl := dChk rightCl (dCl0 zs i)
def dOpt {α : Type} (b : Bool) (z : α) (x : Rdm α) (i : Nat) : Rdm α := if b then x else .ok (z, i)
def dKind (zs : List Int) (i : Nat) : Rdm (Int × Int × Int) := bnd (dNum zs i) fun k j => bnd (dNum zs j) fun f j => bnd (dNum zs j) fun t j => if 1 ≤ k ∧ k ≤ 11 then .ok ((k, f, t), j) else .error 4
def dLt0 (zs : List Int) (i : Nat) : Rdm Lt := bnd (dKind zs i) fun h j =>
  bnd (dOpt (nmI h.1) (0, 0) (dBal zs j) j) fun i j => bnd (dOpt (nmB h.1) (0, 0) (dBal zs j) j) fun b j => bnd (dOpt (nmC h.1) zeroC (dCm zs j) j) fun c j => bnd (dOpt (nmA h.1) zero8 (dAt zs j) j) fun a j =>
  bnd (dOpt (nmX h.1) zeroCl (dCl zs j) j) fun x j => bnd (dOpt (nmD h.1) zero7 (dNums zs 7 j) j) fun d j => bnd (dOpt (nmZ h.1) noT (dTxt zs 16384 j) j) fun z j => .ok (⟨h.1, h.2.1, h.2.2, i, b, c, a, x, d, z⟩, j)
/-- P15.5: Get: the letter, the error. -/
def decLt (zs : List Int) : Lt × Int := match dLt0 zs 0 with
  | .error e => (zeroLt, e)
  | .ok (m, j) => if j < zs.length then (zeroLt, 5) else if rightLt m then (m, 0) else (zeroLt, 4)
end Go.Proofs.Ytjkdccokiaejhaa
/- A cell by value: its twenty-one cells, what is loaded of them. No condition: nothing here speaks of a function. -/
namespace Go.Proofs.Ytjkdccokiaejhaa
set_option maxRecDepth 100000
open Go.RowKit
def Cl.l (x : Cl) : List Value := .int .i64 x.st :: .int .i64 x.p.1 :: .int .i64 x.p.2 :: .int .i64 x.v.1 :: .int .i64 x.v.2 :: (x.c.l ++ (cellsR x.a ++ [.bool x.s]))
def clC (x : Cl) : Array Value := x.l.toArray
theorem Cl.len {x : Cl} (h : x.a.length = 8) : x.l.length = 21 := by
  unfold Cl.l Cm.l
  simp [length_cellsR, h]
theorem clC_size {x : Cl} (h : x.a.length = 8) : (clC x).size = 21 := by unfold clC; rw [List.size_toArray]; exact Cl.len h
theorem Row.mid {w : World} {b : Nat} {t : TypeId} {cs : Array Value} {A ys B : List Value} {o : Nat} (R : Row w b t cs) (h : cs = (A ++ (ys ++ B)).toArray) (ho : A.length = o) : w.rangeAt b o ys := fun j v hv => by
  have hj : j < ys.length := by
    rcases Nat.lt_or_ge j ys.length with h1 | h1
    · exact h1
    · rw [List.getElem?_eq_none h1] at hv; cases hv
  rw [R.cell, h, List.getElem?_toArray, ← ho, List.getElem?_append_right (by omega), Nat.add_sub_cancel_left, List.getElem?_append_left hj, hv]
/-- A cell in a block of its own. -/
structure CeAt (w : World) (b : Nat) (t : TypeId) (x : Cl) : Prop where
  r : Row w b t (clC x)
  l : x.a.length = 8
section
variable {w w' : World} {b B : Nat} {t : TypeId} {x : Cl}
theorem CeAt.lt (h : CeAt w b t x) : b < w.heap.size := h.r.lt
theorem CeAt.below (h : CeAt w b t x) (hb : Below B w w') (hl : b < B) : CeAt w' b t x := ⟨h.r.below hb hl, h.l⟩
theorem CeAt.kept (h : CeAt w b t x) (hb : Below w.heap.size w w') : CeAt w' b t x := ⟨h.r.below hb h.r.lt, h.l⟩
theorem CeAt.drew (h : CeAt w b t x) : CeAt w.drew b t x := ⟨h.r.drewN 1, h.l⟩
theorem CeAt.st (h : CeAt w b t x) : w.cell? ⟨b, 0, none⟩ = some (.int .i64 x.st) := by rw [h.r.cell]; rfl
theorem CeAt.p (h : CeAt w b t x) : w.rangeAt b 1 [.int .i64 x.p.1, .int .i64 x.p.2] :=
  h.r.mid (A := [.int .i64 x.st]) (B := .int .i64 x.v.1 :: .int .i64 x.v.2 :: (x.c.l ++ (cellsR x.a ++ [.bool x.s]))) rfl rfl
theorem CeAt.v (h : CeAt w b t x) : w.rangeAt b 3 [.int .i64 x.v.1, .int .i64 x.v.2] :=
  h.r.mid (A := [.int .i64 x.st, .int .i64 x.p.1, .int .i64 x.p.2]) (B := x.c.l ++ (cellsR x.a ++ [.bool x.s])) rfl rfl
theorem CeAt.c (h : CeAt w b t x) : w.rangeAt b 5 x.c.l :=
  h.r.mid (A := [.int .i64 x.st, .int .i64 x.p.1, .int .i64 x.p.2, .int .i64 x.v.1, .int .i64 x.v.2]) (B := cellsR x.a ++ [.bool x.s]) rfl rfl
theorem CeAt.a (h : CeAt w b t x) : w.rangeAt b 12 (cellsR x.a) :=
  h.r.mid (A := [.int .i64 x.st, .int .i64 x.p.1, .int .i64 x.p.2, .int .i64 x.v.1, .int .i64 x.v.2] ++ x.c.l) (B := [.bool x.s]) rfl rfl
theorem CeAt.s (h : CeAt w b t x) : w.cell? ⟨b, 20, none⟩ = some (.bool x.s) := by
  have := h.r.mid (A := [.int .i64 x.st, .int .i64 x.p.1, .int .i64 x.p.2, .int .i64 x.v.1, .int .i64 x.v.2] ++ (x.c.l ++ cellsR x.a)) (ys := [.bool x.s]) (B := []) (o := 20) (by unfold clC Cl.l; simp) (by
    have : x.c.l.length = 7 := rfl
    rw [List.length_append, List.length_append, length_cellsR, h.l, this]; rfl)
  exact this 0 _ rfl
end
/-- All cells, one by one. -/
theorem CeAt.cells {w : World} {b : Nat} {t : TypeId} {x : Cl} {a0 a1 a2 a3 a4 a5 a6 a7 : Int} (h : CeAt w b t x) (ha : x.a = [a0, a1, a2, a3, a4, a5, a6, a7]) :
    w.cell? ⟨b, 0, none⟩ = some (.int .i64 x.st) ∧ w.cell? ⟨b, 1, none⟩ = some (.int .i64 x.p.1) ∧ w.cell? ⟨b, 2, none⟩ = some (.int .i64 x.p.2) ∧ w.cell? ⟨b, 3, none⟩ = some (.int .i64 x.v.1) ∧ w.cell? ⟨b, 4, none⟩ = some (.int .i64 x.v.2) ∧ w.cell? ⟨b, 5, none⟩ = some (.int .i64 x.c.k) ∧ w.cell? ⟨b, 6, none⟩ = some (.int .i64 x.c.c) ∧ w.cell? ⟨b, 7, none⟩ = some (.int .i64 x.c.q) ∧ w.cell? ⟨b, 8, none⟩ = some (.string x.c.key) ∧ w.cell? ⟨b, 9, none⟩ = some (.string x.c.en) ∧ w.cell? ⟨b, 10, none⟩ = some (.string x.c.old) ∧ w.cell? ⟨b, 11, none⟩ = some (.string x.c.val) ∧ w.cell? ⟨b, 12, none⟩ = some (.int .i64 a0) ∧ w.cell? ⟨b, 13, none⟩ = some (.int .i64 a1) ∧ w.cell? ⟨b, 14, none⟩ = some (.int .i64 a2) ∧ w.cell? ⟨b, 15, none⟩ = some (.int .i64 a3) ∧ w.cell? ⟨b, 16, none⟩ = some (.int .i64 a4) ∧ w.cell? ⟨b, 17, none⟩ = some (.int .i64 a5) ∧ w.cell? ⟨b, 18, none⟩ = some (.int .i64 a6) ∧ w.cell? ⟨b, 19, none⟩ = some (.int .i64 a7) ∧ w.cell? ⟨b, 20, none⟩ = some (.bool x.s) := by
  have r := h.r
  unfold clC Cl.l at r
  rw [ha] at r
  exact ⟨r.cell 0, r.cell 1, r.cell 2, r.cell 3, r.cell 4, r.cell 5, r.cell 6, r.cell 7, r.cell 8, r.cell 9, r.cell 10, r.cell 11, r.cell 12, r.cell 13, r.cell 14, r.cell 15, r.cell 16, r.cell 17, r.cell 18, r.cell 19, r.cell 20⟩
theorem bal_under : Try.prog.underlying 30 = some (.struct (Try.prog.fieldsOf 30)) := by kernel_rfl
theorem bal_info : (Try.prog.info? 30).map (·.size) = some 2 := by kernel_rfl
theorem cm_under : Try.prog.underlying 32 = some (.struct (Try.prog.fieldsOf 32)) := by kernel_rfl
theorem cm_info : (Try.prog.info? 32).map (·.size) = some 7 := by kernel_rfl
theorem at_under : Try.prog.underlying 26 = some (.struct (Try.prog.fieldsOf 26)) := by kernel_rfl
theorem at_info : (Try.prog.info? 26).map (·.size) = some 8 := by kernel_rfl
theorem wpList_load_g {P : Program} {ops : Array Oper} {rest : List Oper} {d : Option Tmp} {t ty : TypeId} {ps : String} {af : Array Edge} {gd : Option (Nat × Bool)} {x : Operand} {a : Act} {w : World} {Q : Exit → Act → World → Prop} {b o : Nat} {cs : List Value} {D : TypeDesc}
    (hw : Region.wanted ({ dst := d, op := .load t x, type := ty, pos := ps, after := af, guard := gd } : Oper) (yielded ops a.tmps) = true) (hx : a.eval x = .pointer (some ⟨b, o, none⟩)) (R : w.rangeAt b o cs)
    (hu : P.underlying t = some D) (hd : D.isRow = true) (hi : (P.info? t).map (·.size) = some cs.length) (h : wpList P ops Q rest (a.put d (.agg cs.toArray)) w) :
    wpList P ops Q ({ dst := d, op := .load t x, type := ty, pos := ps, after := af, guard := gd } :: rest) a w :=
  wpList_step fun K hK => by
    rw [if_pos hw]
    exact wp_load_mid (K := K) t x rfl b o hx cs D R hu hd hi (hK _ _ h)
section
variable {ops : Array Oper} {rest : List Oper} {d : Option Tmp} {ty : TypeId} {ps : String} {af : Array Edge} {gd : Option (Nat × Bool)} {x : Operand} {a : Act} {w : World} {Q : Exit → Act → World → Prop} {b o : Nat}
theorem wpList_load_bal {p q : Int} (hw : Region.wanted ({ dst := d, op := .load 30 x, type := ty, pos := ps, after := af, guard := gd } : Oper) (yielded ops a.tmps) = true) (hx : a.eval x = .pointer (some ⟨b, o, none⟩)) (R : w.rangeAt b o [.int .i64 p, .int .i64 q]) (h : wpList Try.prog ops Q rest (a.put d (.agg #[.int .i64 p, .int .i64 q])) w) :
    wpList Try.prog ops Q ({ dst := d, op := .load 30 x, type := ty, pos := ps, after := af, guard := gd } :: rest) a w :=
  wpList_load_g hw hx R bal_under rfl bal_info h
theorem wpList_load_cm {y : Cm} (hw : Region.wanted ({ dst := d, op := .load 32 x, type := ty, pos := ps, after := af, guard := gd } : Oper) (yielded ops a.tmps) = true) (hx : a.eval x = .pointer (some ⟨b, o, none⟩)) (R : w.rangeAt b o y.l) (h : wpList Try.prog ops Q rest (a.put d (.agg #[.int .i64 y.k, .int .i64 y.c, .int .i64 y.q, .string y.key, .string y.en, .string y.old, .string y.val])) w) :
    wpList Try.prog ops Q ({ dst := d, op := .load 32 x, type := ty, pos := ps, after := af, guard := gd } :: rest) a w :=
  wpList_load_g hw hx R cm_under rfl cm_info h
theorem wpList_load_at {y : List Int} (hl : y.length = 8) (hw : Region.wanted ({ dst := d, op := .load 26 x, type := ty, pos := ps, after := af, guard := gd } : Oper) (yielded ops a.tmps) = true) (hx : a.eval x = .pointer (some ⟨b, o, none⟩)) (R : w.rangeAt b o (cellsR y)) (h : wpList Try.prog ops Q rest (a.put d (.agg (cA y))) w) :
    wpList Try.prog ops Q ({ dst := d, op := .load 26 x, type := ty, pos := ps, after := af, guard := gd } :: rest) a w :=
  wpList_load_g hw hx R at_under rfl (by rw [length_cellsR, hl]; exact at_info) h
end
/-! ### Contracts with attributes as a list -/
theorem eql_zero8 {a : List Int} (h : a.length = 8) (w : World) : (binOp .eql 26 (.agg (cA a)) (.agg #[.int .i64 0, .int .i64 0, .int .i64 0, .int .i64 0, .int .i64 0, .int .i64 0, .int .i64 0, .int .i64 0])).run Try.prog w = .ok (.bool (decide (a = zero8))) w := by
  obtain ⟨a0, a1, a2, a3, a4, a5, a6, a7, rfl⟩ := len8 h
  exact eql_attr a0 a1 a2 a3 a4 a5 a6 a7 0 0 0 0 0 0 0 0 w
end Go.Proofs.Ytjkdccokiaejhaa
