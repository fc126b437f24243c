/- What package kv's Delete comes to. Conditions: the list lies in memory, its length has room. -/
import Derived.Test.YtmcemijipplkgaaKw
namespace Go.Proofs.Ytmcemijipplkgaa
open Go.RowKit
set_option maxRecDepth 100000 in
set_option maxHeartbeats 2000000 in
theorem del_any (v : Value) (l : List Pr) (key : ByteArray) (w : World) (h : Pin w v l) (ln : l.length ≤ 3518437208780) :
    Calls Try.prog 10 #[v, .string key] w (Ans w (delP l key) (.bool (isB l key))) := by
  obtain ⟨A, c, rfl, hA, hc, hcc, hl⟩ := h
  have HF := hide (find_any A l.length c l key w rfl hl (by omega))
  have HL := hide hl
  clear hl
  obtain ⟨k, hk⟩ : ∃ k, st l key = k := ⟨_, rfl⟩
  obtain ⟨t, ht⟩ : ∃ t, isB l key = t := ⟨_, rfl⟩
  cases t
  · have e0 : foundV l key = .tuple #[.int .i64 (k : Nat), .bool false] := by unfold foundV; rw [hk, ht]
    rw [e0] at HF
    have e1 : delP l key = l := by unfold delP; rw [ht]; simp
    rw [e1, ht]
    clear e0 e1 hk ht
    have HC := hide (fun (w1 : World) (h1 : Below w.heap.size w w1) => concat1 (t' := 22) rfl (HL.out.below h1) hA ln)
    go_enter Try.func10, Try.ntmps10
    go_wp2_with (first | (go_at_call 24; (with_reducible refine HF.out.mono ?_); rintro e w1 ⟨rfl, hb1⟩; have HB := hide hb1; clear hb1) | (go_at_call 25; (with_reducible refine (HC.out _ HB.out).mono ?_); rintro e w3 ⟨v3, rfl, ho3, hb3⟩))
    go_ret2
    exact ⟨_, rfl, ho3.mono HB.out.size, kept_trans HB.out hb3⟩
  · have e0 : foundV l key = .tuple #[.int .i64 (k : Nat), .bool true] := by unfold foundV; rw [hk, ht]
    rw [e0] at HF
    obtain ⟨p, hp, -, hg, hlt⟩ := isB_some ht
    rw [hk] at hp hlt
    obtain ⟨j, hj⟩ : ∃ j : Nat, j = k + 1 := ⟨_, rfl⟩
    have hjw : IntKind.i64.wrap ((k : Int) + 1) = (j : Int) := by rw [IntKind.wrap_i64]; omega
    have e1 : delP l key = l.take k ++ l.drop j := by unfold delP; rw [ht, hk, hj]; simp
    rw [e1, ht]
    clear e0 e1 hk ht hg hp
    have HK := hide (show k ≤ l.length by omega)
    have HJ := hide (show j ≤ l.length by omega)
    have HKJ := hide (show k ≤ j by omega)
    have hjl : j ≤ l.length := by omega
    have hjc : j ≤ c := by omega
    clear hj
    have hpv : ∀ (A : Option Addr) (c : Nat), (if c = j then A else Option.map (fun x => x.add (j * 3)) A) = partV 3 A c j := fun _ _ => rfl
    go_enter Try.func10, Try.ntmps10
    go_upto_region 4 with (go_at_call 24; (with_reducible refine HF.out.mono ?_); rintro e w1 ⟨rfl, hb1⟩)
    have HC : Hid (Calls Try.prog 25 #[.slice (some ⟨w1.heap.size, 0, none⟩) 2 2]
        ((w1.alloc (.cells #[.slice A k c, .slice (partV 3 A c j) (l.length - j) (c - j)] 22)).drew)
        (MadeP w1.drew (l.take k ++ l.drop j))) :=
      hide (concat2 (w := w1.drew) (t' := 22) rfl (HL.out.below hb1).drew hA HK.out HJ.out hc ln HKJ.out)
    have HB := hide hb1
    clear hb1 HF HL
    go_region_with (go_at_call 25; (with_reducible refine HC.out.mono ?_); rintro e w3 ⟨v3, rfl, ho3, hb3⟩)
    all_goals
      go_wp2
      go_ret2
      exact ⟨_, rfl, ho3.mono HB.out.size, kept_trans HB.out.drew hb3⟩
end Go.Proofs.Ytmcemijipplkgaa
