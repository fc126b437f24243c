/- Eight owners stored into a new block; two things boxed; what Look's answers are. No condition. -/
import Derived.Test.YtjadbppcjndmlaaRu
import Derived.Test.YtjadbppcjndmlaaIo
import Derived.Test.YtjadbppcjndmlaaWithin
import Derived.Deep.WholeRow
namespace Go.Proofs.Ytjadbppcjndmlaa
open Go.RowKit
/-- All eight are stored into the block that was made last, in the walk. -/
theorem wpList_store8n {ops : Array Oper} {rest : List Oper} {d : Option Tmp} {ty : TypeId} {ps : String} {af : Array Edge} {x y : Operand} {a : Act} {w : World} {Q : Exit → Act → World → Prop} {M : List Co}
    (hx : a.eval x = .pointer (some ⟨w.heap.size, 0, none⟩)) (hy : a.eval y = .agg (arr M)) (hm : M.length = 8)
    (h : wpList Try.prog ops Q rest (a.put d undef) (w.alloc (.cells (arr M) 28))) :
    wpList Try.prog ops Q ({ dst := d, op := .store 28 x y, type := ty, pos := ps, after := af, guard := none } :: rest) a (w.alloc (.cells #[.int .i64 0, .int .i64 0, .bool false, .string { data := #[] }, .int .i64 0, .slice none 0 0, .int .i64 0, .int .i64 0, .bool false, .string { data := #[] }, .int .i64 0, .slice none 0 0, .int .i64 0, .int .i64 0, .bool false, .string { data := #[] }, .int .i64 0, .slice none 0 0, .int .i64 0, .int .i64 0, .bool false, .string { data := #[] }, .int .i64 0, .slice none 0 0, .int .i64 0, .int .i64 0, .bool false, .string { data := #[] }, .int .i64 0, .slice none 0 0, .int .i64 0, .int .i64 0, .bool false, .string { data := #[] }, .int .i64 0, .slice none 0 0, .int .i64 0, .int .i64 0, .bool false, .string { data := #[] }, .int .i64 0, .slice none 0 0, .int .i64 0, .int .i64 0, .bool false, .string { data := #[] }, .int .i64 0, .slice none 0 0] 28)) := by
  rw [zero_arr]
  refine wpList_store8 hx hy (Row.new w _ (arr zeroL)) rfl hm ?_
  rw [World.setRow_alloc_new]
  exact h
/-- Eight owners and a reply boxed. -/
structure B2 (W w : World) (L : List Co) (r : Re) (p : Value) : Prop where
  r0 : Row w W.heap.size 28 (arr L)
  r1 : Row w (W.heap.size + 1) 25 #[.int .i64 r.why, .bool r.fnd, .string r.val, .int .i64 r.ver, p]
  bel : Below W.heap.size W w
theorem B2.new (w : World) (L : List Co) (r : Re) (p : Value) : B2 w ((w.alloc (.cells (arr L) 28)).alloc (.cells #[.int .i64 r.why, .bool r.fnd, .string r.val, .int .i64 r.ver, p] 25)) L r p := by
  have R1 := Row.new (w.alloc (.cells (arr L) 28)) 25 #[.int .i64 r.why, .bool r.fnd, .string r.val, .int .i64 r.ver, p]
  have hs : (w.alloc (.cells (arr L) 28)).heap.size = w.heap.size + 1 := by simp
  rw [hs] at R1
  exact ⟨(Row.new w _ _).alloc _, R1, kept_alloc (kept_alloc (kept_refl w) _) _⟩
theorem B2.below {W w w' : World} {L : List Co} {r : Re} {p : Value} (h : B2 W w L r p) (hb : Below w.heap.size w w') : B2 W w' L r p := ⟨h.r0.below hb h.r0.lt, h.r1.below hb h.r1.lt, h.bel.trans (hb.mono h.bel.size)⟩
def roomO (l : List Ow) : Prop := ∀ o, o ∈ l → o.r.l.length ≤ 3518437208780
theorem look_room {l : List Ow} (h : roomO l) (c s : Int) : (lookO l c s).2.l.length ≤ 3518437208780 := by
  unfold lookO
  split
  · unfold seenO
    split
    · exact Nat.zero_le _
    · split
      · exact Nat.zero_le _
      · cases ho : l[(c - 1).toNat]? with
        | none => exact Nat.zero_le _
        | some o => exact h o (List.mem_of_getElem? ho)
  · exact Nat.zero_le _
theorem fine_room {w : World} {L : List Co} (h : Fine w L) : roomO (ows L) := fun o ho => by
  unfold ows at ho
  obtain ⟨x, hx, rfl⟩ := List.mem_map.1 ho
  exact (h.2 x hx).2
theorem note_room {l : List Ow} (h : roomO l) {c s : Int} {r : Re} (hr : r.l.length ≤ 3518437208780) : roomO (noteO l c s r) := fun o ho => by
  unfold noteO at ho
  split at ho
  · rcases List.mem_or_eq_of_mem_set ho with h1 | rfl
    · exact h o h1
    · exact hr
  · exact h o ho
theorem cli_in {c : Int} (h : 1 ≤ c ∧ c ≤ 8) : cliB c = true := by unfold cliB; rw [decide_eq_true h.1, decide_eq_true h.2]; rfl
/-- Noting one client changes no other's. -/
theorem look_other {l : List Ow} {x y s o : Int} {r : Re} (hx : 1 ≤ x) (hy : 1 ≤ y) (hne : x ≠ y) : lookO (noteO l x s r) y o = lookO l y o := by
  unfold noteO
  split
  · unfold lookO
    rw [List.getElem?_set_ne (by omega)]
  · rfl
theorem look_self {l : List Ow} {x s o : Int} {r : Re} (hl : l.length = 8) (hx : 1 ≤ x ∧ x ≤ 8) : lookO (noteO l x s r) x o = seenO ⟨s, r⟩ o := by
  unfold noteO lookO
  rw [cli_in hx, if_pos rfl, if_pos rfl, List.getElem?_set_self (by omega)]
  rfl
theorem seen1 {s o : Int} {r : Re} (h : s < o) : seenO ⟨s, r⟩ o = (1, zeroR) := if_pos h
theorem seen2 (s : Int) (r : Re) : seenO ⟨s, r⟩ s = (2, r) := (if_neg (Int.lt_irrefl s)).trans (if_neg (Int.lt_irrefl s))
theorem seen3 {s o : Int} {r : Re} (h : o < s) : seenO ⟨s, r⟩ o = (3, zeroR) := (if_neg (Int.not_lt.2 (Int.le_of_lt h))).trans (if_pos h)
end Go.Proofs.Ytjadbppcjndmlaa
