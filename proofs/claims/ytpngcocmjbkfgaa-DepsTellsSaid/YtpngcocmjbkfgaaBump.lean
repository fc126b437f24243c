/- 'm[k]++' at a map that the call has made: each of its operations, in whatever order Go may take them. Condition: the map has room. No program is spoken of. -/
import Derived.Test.YtpngcocmjbkfgaaBlk
import Derived.WideKeyEntry
import Derived.Maps.OwnOps
namespace Go.Proofs.Ytpngcocmjbkfgaa
open Go.RowKit Go.Maps
open Go.ChangeMaps Go.MapKept
open Go.WideElems (Fit entry_then_store)
open Go.WideMaps (KeyLaw)
theorem setBlock_self {w : World} {b : Nat} {o : Obj} (h : w.heap[b]? = some o) : setBlock w b o = w := by
  obtain ⟨hlt, hv⟩ := Array.getElem?_eq_some_iff.1 h
  unfold setBlock
  have : w.heap.setIfInBounds b o = w.heap := by
    apply Array.ext
    · simp
    · intro i h1 h2
      rw [Array.getElem_setIfInBounds]
      split
      · rename_i e; subst e; exact hv.symm
      · rfl
  rw [this]
theorem setBlock_grown (w : World) {b : Nat} (o : Obj) {es : Array MapEntry} {c : Nat} (hb : w.heap[b]? = some (.map es c)) : w.grownBy (setBlock w b o) (some b) :=
  ⟨rfl, rfl, rfl, by simp [setBlock], fun i _ hi => heap_setBlock_other hb _ (fun e => hi (by rw [e]))⟩
section
variable {H : Type} {P : Program} {w : World} {t k e : TypeId} {b n : Nat} {D : DataW H}
/-- What 'mapEntry' leaves is a map that reads as before, or with a nought more at that key. -/
theorem entry_own (KL : KeyLaw P k) (K : Keyed P k) (ht : P.underlying t = some (.map k e)) (he : P.underlying e = some (.int .i64)) (hz : ∀ u : World, (zeroValue e).run P u = .ok (.int .i64 0) u)
    (h : w.ownsMap P k (plainElem P e) b n D) (hn : n < maxLen) {key : Value} {kl : Lit} (hkey : keyOf P k key = some kl) :
    ∃ (v0 : Value) (st : Nat) (w1 : World), (Instr.mapEntry t (.map (some b)) key).run P w = .ok (.tuple #[v0, goInt st]) w1 ∧ w.grownBy w1 (some b) ∧
      (w1.ownsMap P k (plainElem P e) b (n + 1) D ∨ w1.ownsMap P k (plainElem P e) b (n + 1) (D.put kl (.lit (.int .i64 0))) ∧ D.atKey kl (.lit (.int .i64 0)) = .lit (.int .i64 0)) ∧
      ∀ (c : Int), (Lit.int .i64 c).wf = true → ∃ w2, (Instr.entryStore t (.map (some b)) (goInt st) (.int .i64 c)).run P w1 = .ok () w2 ∧ w2.ownsMap P k (plainElem P e) b (n + 1) (D.put kl (.lit (.int .i64 c))) ∧ w.grownBy w2 (some b) := by
  have h' := h
  obtain ⟨es, clock, hb, F, hs, hD⟩ := h
  obtain ⟨v0, st, es1, clock1, hrun, hv0, hst⟩ := entry_then_store KL ht hz hb F hkey
  have hb1 := heap_setBlock_same hb (.map es1 clock1)
  have g1 := setBlock_grown w (.map es1 clock1) hb
  refine ⟨v0, st, setBlock w b (.map es1 clock1), hrun, g1, ?_, fun c hc => ?_⟩
  · rcases KL.find w hkey es.toList F.keys with ⟨h1, h2⟩ | ⟨j, e0, h1, h2, h3⟩
    · right
      have hr1 : (Instr.mapEntry t (.map (some b)) key).run P w = .ok (.tuple #[.int .i64 0, goInt clock]) (setBlock w b (.map (es.push ⟨key, .int .i64 0, clock⟩) (clock + 1))) := by
        simp [Instr.mapEntry, run_underlying ht, MapKept.run_getObj_map hb, KL.check w false hkey, h1, hz, MapKept.run_setObj_map _ hb, Result.andThen, setBlock]
      have hr2 : (Instr.mapUpdate t (.map (some b)) key (.int .i64 0)).run P w = .ok () (setBlock w b (.map (es.push ⟨key, .int .i64 0, clock⟩) (clock + 1))) := by
        simp [Instr.mapUpdate, run_underlying ht, MapKept.run_getObj_map hb, KL.check w false hkey, h1, MapKept.run_setObj_map _ hb, Result.andThen, setBlock]
      rw [hrun] at hr1
      injection hr1 with _ e1
      obtain ⟨w', hr3, ho, _⟩ := h'.update K ht hn hkey (plainElem_int he (by decide : (Lit.int .i64 0).wf = true))
      rw [hr2] at hr3
      injection hr3 with _ e2
      rw [e1, e2]
      refine ⟨ho, ?_⟩
      rcases Maps.fit_look false K ht (hz w) hb F hkey with ⟨_, _, hat⟩ | ⟨e0, _, hm, hk, _⟩
      · rw [hD]; exact hat _
      · exact absurd hk (h2 e0 hm)
    · left
      have hj : es[j]? = some e0 := by simpa using h2
      have hsame : es.modify j (fun e => { e with key := key }) = es := by
        apply Array.ext'
        rw [Array.toList_modify, modify_eq_set _ _ _ _ h2]
        have : ({ e0 with key := key } : MapEntry) = e0 := by rw [← h3]
        rw [this]
        exact Go.WideElems.set_self _ _ _ h2
      have hr1 : (Instr.mapEntry t (.map (some b)) key).run P w = .ok (.tuple #[e0.val, goInt e0.born]) (setBlock w b (.map es clock)) := by
        simp [Instr.mapEntry, run_underlying ht, MapKept.run_getObj_map hb, KL.check w false hkey, h1, hj, h3, KL.stays w hkey, hsame, MapKept.run_setObj_map _ hb, Result.andThen, setBlock]
      rw [hrun] at hr1
      injection hr1 with _ e1
      rw [e1, setBlock_self hb]
      exact h'.mono (by omega)
  · obtain ⟨es', clock', hs1, hs2⟩ := hst (setBlock w b (.map es1 clock1)) (.int .i64 c) hb1
    obtain ⟨w', hr3, ho, hg⟩ := h'.update K ht hn hkey (plainElem_int he hc)
    rw [hs2] at hr3
    injection hr3 with _ e2
    refine ⟨_, hs1, ?_, grown_trans g1 (setBlock_grown _ _ hb1)⟩
    have e3 : setBlock (setBlock w b (.map es1 clock1)) b (.map es' clock') = setBlock w b (.map es' clock') := by
      unfold setBlock
      simp
    rw [e3, e2]
    exact ho
end
end Go.Proofs.Ytpngcocmjbkfgaa
