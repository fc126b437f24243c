/- Names of the document's disk. Conditions: the slice has room. -/
import Derived.Test.YtllgjbkmemheoaaRefs
import Derived.Test.YtllgjbkmemheoaaCalls
import Derived.Laws.AppendOwn
namespace Go.Proofs.Ytllgjbkmemheoaa
open Go.RowKit Go.Maps
set_option maxRecDepth 100000 in
theorem Try.infoText : (Try.prog.info? 9).map (fun i => (i.zero, i.size, i.bytes)) = some (some (.string ⟨#[]⟩), 1, 16) := by kernel_rfl
/-- The names of the first k files, in a slice of the call's own. -/
structure Nm (w wr : World) (l : List Fl) (k : Nat) (v : Value) : Prop where
  low : Below w.heap.size w wr
  own : wr.ownsRow w.heap.size 9 1 v k (((nms l).take k).map Value.string)
theorem text_new (w : World) (t : TypeId) (x : ByteArray) : ∀ j u, [Value.string x][j]? = some u → (w.alloc (.cells #[.string x] t)).cell? ((⟨w.heap.size, 0, none⟩ : Addr).add j) = some u := fun j u hj => by
  rcases j with _ | j
  · have e : u = .string x := by simpa using hj.symm
    subst e
    exact (Row.new w t #[.string x]).cell 0
  · simp at hj
theorem nms_succ {l : List Fl} {k : Nat} {f : Fl} (h : l[k]? = some f) : ((nms l).take (k + 1)).map Value.string = ((nms l).take k).map Value.string ++ [.string f.nm] := by
  have hk : k < (nms l).length := by rw [length_nms]; exact (List.getElem?_eq_some_iff.1 h).1
  have e : (nms l)[k] = f.nm := by
    have : (nms l)[k]? = some f.nm := by unfold nms; rw [List.getElem?_map, h]; rfl
    rw [List.getElem?_eq_getElem hk] at this; exact Option.some.inj this
  rw [List.take_succ_eq_append_getElem hk, e, List.map_append]; rfl
section
variable {S : Nat → Prop} {w : World} {g : Nat} {R : List (Fl × Ps)} {A : Option Addr} {c : Nat} {d : DS}
set_option maxRecDepth 100000 in
set_option maxHeartbeats 1000000 in
theorem rnames_any (h : Rp S w g R A c d) (hln : d.l.length ≤ 1000000) :
    Calls Try.prog 41 #[.pointer (some ⟨g, 0, none⟩)] w fun e w' => ∃ A' c', e = .returned (.slice A' d.l.length c') ∧ Strs w' A' (nms d.l) ∧ Below w.heap.size w w' := by
  obtain ⟨i0, hi, hz0, hz1, hz2⟩ := info_parts Try.infoText
  have C0 := hide h.c0
  have HG := hide h.row.lt
  have HAT := hide (show ∀ k f, d.l[k]? = some f → ∃ b off, A = some ⟨b, off, none⟩ ∧ b < w.heap.size ∧ w.cell? ⟨b, off + k * 3, none⟩ = some (.string f.nm) from fun k f hk => by
    obtain ⟨b, off, s, rfl, hs, hkl, n0, _⟩ := h.at_ hk
    exact ⟨b, off, rfl, h.lt _ (h.sA _ rfl), n0⟩)
  clear h
  go_enter Try.func41, Try.ntmps41
  go_wp2
  go_loopw [3, 4] (fun v i wr => ∃ k : Nat, k ≤ d.l.length ∧ i = .int .i64 k ∧ Hid (Nm w wr d.l k v)) (fun _ i _ => d.l.length - (intOf i).toNat)
  case atStart => exact ⟨0, by omega, rfl, Below.refl _ _, ⟨rfl, .inl ⟨rfl, rfl⟩⟩⟩
  case round =>
    obtain ⟨k, hk, rfl, J⟩ := hrel
    have c0 : wr.cell? ⟨g, 0, none⟩ = some (.slice A d.l.length c) := (J.out.low.cell (p := ⟨g, 0, none⟩) HG.out).trans C0.out
    obtain ⟨A1, c1, rfl, _⟩ := own_shape J.out.own
    by_cases hlt : k < d.l.length
    · obtain ⟨b, off, rfl, hb, n0'⟩ := HAT.out k d.l[k] (List.getElem?_eq_getElem hlt)
      have n0 := (J.out.low.cell (p := ⟨b, off + k * 3, none⟩) hb).trans n0'
      have HS := hide (nms_succ (List.getElem?_eq_getElem hlt))
      generalize d.l[k] = f at *
      clear n0'
      have own0 := J.out.own
      have hsz := J.out.low.size
      go_wp2_with (at_builtin; refine wpList_append_own _ rfl _ _ 51 rfl w.heap.size 9 i0 (.string ⟨#[]⟩) 1 16 Try.underlying51 hi hz0 hz1 hz2 rfl (by decide) _ _ _ rfl (own0.alloc _) ⟨wr.heap.size, 0, none⟩ 1 1 [.string f.nm] rfl rfl (text_new _ _ _) (by simp [Value.oneCell']) (by unfold maxLen; omega) (by omega) (Nat.le_trans hsz (alloc_le _ _)) ?_; intro v' w1 hown' hgrow _)
      have KN := hide (show Nm w w1 d.l (k + 1) v' from ⟨(J.out.low.alloc hsz _).grown hgrow (Nat.le_trans hsz (alloc_le _ _)) (fun q hq => (own0.lt q hq).1), by rw [HS.out]; exact hown'⟩)
      clear hown' hgrow own0 J
      go_wp2
      go_roundw
      case rel => exact ⟨k + 1, by omega, by go_num, KN⟩
      case measure => simp [intOf]; omega
    · obtain rfl : k = d.l.length := by omega
      have HF := hide (show Strs wr A1 (nms d.l) ∧ Below w.heap.size w wr from ⟨Strs.of_own (by have := J.out.own; rw [List.take_of_length_le (by rw [length_nms]; omega)] at this; exact this), J.out.low⟩)
      clear J
      go_wp2
      go_ret
      exact ⟨A1, c1, rfl, HF.out⟩
end
end Go.Proofs.Ytllgjbkmemheoaa
