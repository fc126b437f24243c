/- What package kv's Put and Delete come to. Conditions: the list lies in memory, its length has room. -/
import Derived.Test.YtmcemijipplkgaaKw
namespace Go.Proofs.Ytmcemijipplkgaa
open Go.RowKit
set_option maxRecDepth 100000 in
set_option maxHeartbeats 2000000 in
theorem put_any (v : Value) (l : List Pr) (key value : ByteArray) (w : World) (h : Pin w v l) (ln : l.length ≤ 3518437208780) :
    Calls Try.prog 9 #[v, .string key, .string value] w (Ans w (putL l key value) (.int .i64 (putE l key))) := by
  obtain ⟨A, c, rfl, hA, hc, hcc, hl⟩ := h
  have HF := hide (find_any A l.length c l key w rfl hl (by omega))
  have HL := hide hl
  clear hl
  obtain ⟨k, hk⟩ : ∃ k, st l key = k := ⟨_, rfl⟩
  obtain ⟨t, ht⟩ : ∃ t, isB l key = t := ⟨_, rfl⟩
  cases t
  · have e0 : foundV l key = .tuple #[.int .i64 (k : Nat), .bool false] := by unfold foundV; rw [hk, ht]
    rw [e0] at HF
    by_cases hf : 32 ≤ l.length
    · have e1 : putL l key value = [] := by unfold putL fullB; rw [ht]; simp [hf]
      have e2 : putE l key = 7 := by unfold putE fullB; rw [ht]; simp [hf]
      rw [e1, e2]
      clear e0 e1 e2 hk ht
      go_enter Try.func9, Try.ntmps9
      go_wp2_with (go_at_call 24; (with_reducible refine HF.out.mono ?_); rintro e w1 ⟨rfl, hb1⟩)
      go_ret2
      exact ⟨_, rfl, Mine.nil_ _ _, hb1⟩
    · have hlen := st_le l key
      rw [hk] at hlen
      have e1 : putL l key value = l.take k ++ (⟨key, value, 1⟩ :: l.drop k) := by unfold putL fullB putP verP behP; rw [ht, hk]; simp [hf]
      have e2 : putE l key = 0 := by unfold putE fullB; rw [ht]; simp [hf]
      rw [e1, e2]
      clear e0 e1 e2 hk ht
      have hpv : ∀ (A : Option Addr) (c : Nat), (if c = k then A else Option.map (fun x => x.add (k * 3)) A) = partV 3 A c k := fun _ _ => rfl
      have HK := hide hlen
      have HJ := hide hlen
      have HKJ := hide (Nat.le_refl k)
      go_enter Try.func9, Try.ntmps9
      go_upto_region 8 with (go_at_call 24; (with_reducible refine HF.out.mono ?_); rintro e w1 ⟨rfl, hb1⟩)
      have R := Row.new w1 29 #[.string key, .string value, .int .i64 1]
      have HB := hide (kept_alloc hb1 (.cells #[.string key, .string value, .int .i64 1] 29))
      have HL2 := (HL.out.below hb1).alloc (.cells #[.string key, .string value, .int .i64 1] 29)
      clear hb1 HF HL
      obtain ⟨c0, c1, c2⟩ := R.three
      clear R
      generalize w1.heap.size = g at *
      generalize w1.alloc _ = w2 at *
      have HC : Hid (Calls Try.prog 25 #[.slice (some ⟨w2.heap.size + 1, 0, none⟩) 3 3]
          ((w2.alloc (.cells #[.string key, .string value, .int .i64 1] 29)).alloc (.cells #[.slice A k c, .slice (some ⟨w2.heap.size, 0, none⟩) 1 1, .slice (partV 3 A c k) (l.length - k) (c - k)] 22)).drew
          (MadeP w2.drew (l.take k ++ (⟨key, value, 1⟩ :: l.drop k)))) :=
        hide (concat3 (w := w2.drew) (p := ⟨key, value, 1⟩) (t := 29) (t' := 22) rfl HL2.drew hA HK.out HJ.out hc ln HKJ.out)
      clear HL2
      go_region_with (go_at_call 25; (with_reducible refine HC.out.mono ?_); rintro e w3 ⟨v3, rfl, ho3, hb3⟩)
      all_goals
        go_wp2
        go_ret2
        exact ⟨_, rfl, ho3.mono HB.out.size, kept_trans HB.out.drew hb3⟩
  · have e0 : foundV l key = .tuple #[.int .i64 (k : Nat), .bool true] := by unfold foundV; rw [hk, ht]
    rw [e0] at HF
    obtain ⟨p, hp, -, hg, hlt⟩ := isB_some ht
    rw [hk] at hp hlt
    obtain ⟨j, hj⟩ : ∃ j : Nat, j = k + 1 := ⟨_, rfl⟩
    have hjw : IntKind.i64.wrap ((k : Int) + 1) = (j : Int) := by rw [IntKind.wrap_i64]; omega
    have e1 : putL l key value = l.take k ++ (⟨key, value, IntKind.i64.wrap (p.n + 1)⟩ :: l.drop j) := by unfold putL fullB putP verP behP; rw [ht, hk, hg, hj]; simp
    have e2 : putE l key = 0 := by unfold putE fullB; rw [ht]; simp
    rw [e1, e2]
    clear e0 e1 e2 hk ht hg
    have HK := hide (show k ≤ l.length by omega)
    have HJ := hide (show j ≤ l.length by omega)
    have HKJ := hide (show k ≤ j by omega)
    have hjl : j ≤ l.length := by omega
    have hjc : j ≤ c := by omega
    clear hj
    obtain ⟨V, hV⟩ : ∃ V, IntKind.i64.wrap (p.n + 1) = V := ⟨_, rfl⟩
    have hpv : ∀ (A : Option Addr) (c : Nat), (if c = j then A else Option.map (fun x => x.add (j * 3)) A) = partV 3 A c j := fun _ _ => rfl
    have HP := hide hp
    clear hp
    rw [hV]
    go_enter Try.func9, Try.ntmps9
    go_upto_region 8 with (go_at_call 24; (with_reducible refine HF.out.mono ?_); rintro e w1 ⟨rfl, hb1⟩; obtain ⟨b, o, rfl, hbs, d0, d1, d2⟩ := (HL.out.below hb1).at_ HP.out)
    go_quiet (fail)
    replace hb1 := kept_drewN hb1 nq
    have HLW := hide ((HL.out.below hb1))
    clear d0 d1 d2 hbs
    generalize w1.drewN nq = wd at hb1 HLW ⊢
    clear HF HL HP
    generalize (some (⟨b, o, none⟩ : Addr)) = A at hA HLW ⊢
    have hkl : k ≤ l.length := by omega
    have hkc : k ≤ c := by omega
    go_upto_region 8 with (fail)
    have R := Row.new wd 29 #[.string key, .string value, .int .i64 V]
    have HB := hide (kept_alloc hb1 (.cells #[.string key, .string value, .int .i64 V] 29))
    have HL2 := HLW.out.alloc (.cells #[.string key, .string value, .int .i64 V] 29)
    clear hb1 HLW
    obtain ⟨c0, c1, c2⟩ := R.three
    clear R
    generalize wd.alloc (.cells #[.string key, .string value, .int .i64 V] 29) = w2 at HB HL2 c0 c1 c2 ⊢
    generalize wd.heap.size = g at c0 c1 c2 ⊢
    have HC : Hid (Calls Try.prog 25 #[.slice (some ⟨w2.heap.size + 1, 0, none⟩) 3 3]
        ((w2.alloc (.cells #[.string key, .string value, .int .i64 V] 29)).alloc (.cells #[.slice A k c, .slice (some ⟨w2.heap.size, 0, none⟩) 1 1, .slice (partV 3 A c j) (l.length - j) (c - j)] 22)).drew
        (MadeP w2.drew (l.take k ++ (⟨key, value, V⟩ :: l.drop j)))) :=
      hide (concat3 (w := w2.drew) (p := ⟨key, value, V⟩) (t := 29) (t' := 22) rfl HL2.drew hA HK.out HJ.out hc ln HKJ.out)
    clear HL2
    go_region_with (go_at_call 25; (with_reducible refine HC.out.mono ?_); rintro e w3 ⟨v3, rfl, ho3, hb3⟩)
    all_goals
      go_wp2
      go_ret2
      exact ⟨_, rfl, ho3.mono HB.out.size, kept_trans HB.out.drew hb3⟩
end Go.Proofs.Ytmcemijipplkgaa
