/- A chain's two operations at this seat. No condition. -/
import Derived.Test.YtmcemijipplkgaaPm
import Derived.Test.YtmcemijipplkgaaCh4
namespace Go.Proofs.Ytmcemijipplkgaa
open Go.RowKit
theorem lit_str (s : ByteArray) (w : World) : (Instr.buildSlice 46 1 #[(0, .string s)]).run Try.prog w = .ok (.slice (some ⟨w.heap.size, 0, none⟩) 1 1) (w.alloc (.cells #[.string s] 9)) := by
  have u9 := Try.underlying46
  have z9 := Try.sizeOf9
  go_simp
theorem lit_int (n : Int) (w : World) : (Instr.buildSlice 47 1 #[(0, .int .i64 n)]).run Try.prog w = .ok (.slice (some ⟨w.heap.size, 0, none⟩) 1 1) (w.alloc (.cells #[.int .i64 n] 3)) := by
  have u9 := Try.underlying47
  have z9 := Try.sizeOf3
  go_simp
theorem op2_of {T e : TypeId} (hE : El1 T e) {ops : Array Oper} {Q : Exit → Act → World → Prop} {base b d : Nat} {xs : List (List Value)} {x0 U : Value} {ou os : Operand} {ib ia : Nat} {ob oa : Oper} (hU : U.oneCell' = true)
    (hrun : ∀ w, (Instr.buildSlice T 1 #[(0, U)]).run Try.prog w = .ok (.slice (some ⟨w.heap.size, 0, none⟩) 1 1) (w.alloc (.cells #[U] e)))
    (hob : ops[ib]? = some ob) (hgb : ob.guard = none) (hdb : ob.dst = some b) (hbo : ob.op = .buildSlice T 1 #[(0, ou)])
    (hoa : ops[ia]? = some oa) (hga : oa.guard = none) (hda : oa.dst = some d) (hao : oa.op = .call { callee := .builtin .append, args := #[os, .tmp b], argTypes := #[T, T] }) (hb : xs.length + 1 ≤ 1000) :
    Op2 Try.prog ops Q ⟨b, d, e, 1, xs, [U], x0⟩ base ou os U ib ia := by
  obtain ⟨i, z, by', hu, hi, hz0, hz1, hz2, hz3, hby⟩ := hE
  refine ⟨fun a w K h1 h2 => ?_, fun a w K g h1 h2 h3 h4 h5 h6 => ?_⟩
  · refine wpOp_step hob (fun K' hK => ?_)
    have hw : Region.wanted ob (yielded ops a.tmps) = true := by simp [Region.wanted, hgb]
    rw [if_pos hw]
    unfold Oper.wp execOp
    simp only [hbo, Sem.run_bind, Sem.run_pure, Result.andThen_ok, List.map_toArray, List.map_cons, List.map_nil, h1, hrun]
    refine hK _ _ ?_
    rw [hdb]
    exact h2
  · refine wpOp_step hoa (fun K' hK => ?_)
    have hw : Region.wanted oa (yielded ops a.tmps) = true := by simp [Region.wanted, hga]
    rw [if_pos hw]
    have hbb : (xs.length + 1) * by' ≤ 1000 * 16 := Nat.mul_le_mul hb hby
    obtain ⟨v', w', hr, r1, r2, _, r4⟩ := run_append_own_at (P := Try.prog) (w := w) base T oa.type e i z 1 by' hu hi hz0 hz1 hz2 hz3 (by omega) x0 xs.length (cellsV xs) h4 ⟨g, 0, none⟩ 1 1 [U] rfl (fun j u hj => by
      have := h5.cell j
      rw [Go.WideShapes.add_plain, Nat.zero_add, this]
      simpa using hj) (fun u hu => by simp at hu; subst hu; exact hU) (by unfold maxLen; omega) (by omega) h3
    unfold Oper.wp execOp
    simp only [hao, resolve, invoke, builtin, Sem.run_bind, Sem.run_pure, Result.andThen_ok, List.map_toArray, List.map_cons, List.map_nil, h1, h2, hr]
    refine hK _ _ ?_
    rw [hda]
    refine h6 v' w' ?_ r2 r4
    unfold Rw
    rw [List.length_append, cellsV_append]
    exact r1
end Go.Proofs.Ytmcemijipplkgaa
