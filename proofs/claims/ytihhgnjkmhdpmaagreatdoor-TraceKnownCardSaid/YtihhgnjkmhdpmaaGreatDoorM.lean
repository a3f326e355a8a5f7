/- 'm[k]++' on a map that the call made: the look-up, the entry, the store, in whatever order. -/
import Derived.Maps.RangeWalk
import Derived.Maps.OwnOps
import Derived.WideKeyEntry
namespace Go.Proofs.YtihhgnjkmhdpmaaGreatDoor
open Go.ChangeMaps Go.MapKept
open Go.WideElems (Fit rd rg pl rd_val elemAt entry_then_store)
open Go.Maps (Keyed)
theorem own_entry {H : Type} {P : Program} {w : World} {t k e : TypeId} {q : IntKind} {b n : Nat} {D : DataW H} (h : w.ownsMap P k (plainElem P e) b n D) (K : WideMaps.KeyLaw P k) (ht : P.underlying t = some (.map k e)) (he : P.underlying e = some (.int q))
    (hz : ∀ u : World, (zeroValue e).run P u = .ok (.int q 0) u) (hn : n < maxLen) {key : Value} {kl : Lit} (hkey : keyOf P k key = some kl) :
    ∃ (c : Int) (st : Nat) (w1 : World), D.atKey kl (.lit (.int q 0)) = .lit (.int q c) ∧ (Lit.int q c).wf = true ∧ (Instr.lookup t (.map (some b)) key false).run P w = .ok (.int q c) w ∧
      (∃ v0, (Instr.mapEntry t (.map (some b)) key).run P w = .ok (.tuple #[v0, .int .i64 (st : Int)]) w1) ∧ (Instr.lookup t (.map (some b)) key false).run P w1 = .ok (.int q c) w1 ∧ w.grownBy w1 (some b) ∧ w1.heap.size = w.heap.size ∧
      ∀ x : Int, (Lit.int q x).wf = true → ∃ w2, (Instr.entryStore t (.map (some b)) (.int .i64 (st : Int)) (.int q x)).run P w1 = .ok () w2 ∧ w2.ownsMap P k (plainElem P e) b (n + 1) (D.put kl (.lit (.int q x))) ∧ w.grownBy w2 (some b) ∧ w2.heap.size = w.heap.size := by
  have hw0 : (Lit.int q 0).wf = true := by cases q <;> decide
  have K' : Keyed P k := Keyed.of_law K
  obtain ⟨c, hlook, hat, hwc⟩ := h.lookup_int K' ht he (hz w) hkey
  have hup := fun val d (hv : plainElem (H := H) P e val = some (d, [])) => h.update K' ht hn hkey hv
  have h0 := h
  obtain ⟨es, clock, hb, F, hs, hD⟩ := h
  obtain ⟨v0, st, es1, clock1, hrun, hv0, hst⟩ := entry_then_store K ht hz hb F hkey
  have hg1 : w.grownBy (setBlock w b (.map es1 clock1)) (some b) := ⟨rfl, rfl, rfl, by simp [setBlock], fun i _ hi => heap_setBlock_other hb _ (fun e => hi (by rw [e]))⟩
  have hb1 := heap_setBlock_same hb (.map es1 clock1)
  have hlook1 : (Instr.lookup t (.map (some b)) key false).run P (setBlock w b (.map es1 clock1)) = .ok (.int q c) (setBlock w b (.map es1 clock1)) := by
    rcases K.find w hkey es.toList F.keys with ⟨h1, h2⟩ | ⟨j, e0, h1, h2, h3⟩
    · have hr : (Instr.mapEntry t (.map (some b)) key).run P w = .ok (.tuple #[.int q 0, goInt clock]) (setBlock w b (.map (es.push ⟨key, .int q 0, clock⟩) (clock + 1))) := by
        simp [Instr.mapEntry, run_underlying ht, MapKept.run_getObj_map hb, K.check w false hkey, h1, hz, MapKept.run_setObj_map _ hb, Result.andThen, setBlock]
      have hu : (Instr.mapUpdate t (.map (some b)) key (.int q 0)).run P w = .ok () (setBlock w b (.map (es.push ⟨key, .int q 0, clock⟩) (clock + 1))) := by
        simp [Instr.mapUpdate, run_underlying ht, MapKept.run_getObj_map hb, K.check w false hkey, h1, MapKept.run_setObj_map _ hb, Result.andThen, setBlock]
      have hl : (Instr.lookup t (.map (some b)) key false).run P w = .ok (.int q 0) w := by
        simp [Instr.lookup, run_underlying ht, MapKept.run_getObj_map hb, K.check w _ hkey, h1, hz, Result.andThen]
      have hc : c = 0 := by rw [hlook] at hl; simp at hl; exact hl
      have hw1 : setBlock w b (.map es1 clock1) = setBlock w b (.map (es.push ⟨key, .int q 0, clock⟩) (clock + 1)) := by
        rw [hr] at hrun; simp at hrun; exact hrun.2.symm
      obtain ⟨w', hr', how, _⟩ := hup _ _ (plainElem_int he hw0)
      have hww : w' = setBlock w b (.map es1 clock1) := by
        rw [hu] at hr'; simp at hr'; rw [hw1]; exact hr'.symm
      rw [hww] at how
      obtain ⟨c', hlk, hat', _⟩ := how.lookup_int K' ht he (hz _) hkey
      obtain ⟨es0, he0, _⟩ := h0.entries K'
      rw [Maps.atKey_put_same ⟨es0, he0⟩ (K'.key hkey)] at hat'
      have : c' = 0 := by simp at hat'; exact hat'.symm
      rw [hlk, this, hc]
    · have hj : es[j]? = some e0 := by simpa using h2
      have hr : (Instr.mapEntry t (.map (some b)) key).run P w = .ok (.tuple #[e0.val, goInt e0.born]) (setBlock w b (.map (es.modify j fun e' => { e' with key := key }) clock)) := by
        simp [Instr.mapEntry, run_underlying ht, MapKept.run_getObj_map hb, K.check w false hkey, h1, hj, h3, K.stays w hkey, MapKept.run_setObj_map _ hb, Result.andThen, setBlock]
      have hsame : es.modify j (fun e => { e with key := key }) = es := by
        apply Array.ext'
        rw [Array.toList_modify, modify_eq_set _ _ _ _ h2]
        have : ({ e0 with key := key } : MapEntry) = e0 := by rw [← h3]
        rw [this]
        exact WideElems.set_self _ _ _ h2
      rw [hsame] at hr
      have hw1 : setBlock w b (.map es1 clock1) = setBlock w b (.map es clock) := by
        rw [hr] at hrun; simp at hrun; exact hrun.2.symm
      rw [hw1]
      have how : (setBlock w b (.map es clock)).ownsMap P k (plainElem P e) b n D := ⟨es, clock, heap_setBlock_same hb _, F, hs, hD⟩
      obtain ⟨c', hlk, hat', _⟩ := how.lookup_int K' ht he (hz _) hkey
      rw [hat] at hat'
      have : c = c' := by simp at hat'; exact hat'
      rw [hlk, this]
  refine ⟨c, st, setBlock w b (.map es1 clock1), hat, hwc, hlook, ⟨v0, hrun⟩, hlook1, hg1, by simp [setBlock], fun x hx => ?_⟩
  obtain ⟨es', clock', hs1, hs2⟩ := hst (setBlock w b (.map es1 clock1)) (.int q x) hb1
  obtain ⟨w', hr', how, hgw⟩ := hup _ _ (plainElem_int he hx)
  have hww : w' = setBlock w b (.map es' clock') := by rw [hs2] at hr'; simp at hr'; exact hr'.symm
  rw [hww] at how hgw
  have hb2 := heap_setBlock_same hb1 (.map es' clock')
  refine ⟨_, hs1, ?_, ⟨rfl, rfl, rfl, by simp [setBlock], fun i hi hne => ?_⟩, by simp [setBlock]⟩
  · obtain ⟨es2, clock2, hbb, F2, hs2', hD2⟩ := how
    rw [heap_setBlock_same hb] at hbb
    cases hbb
    exact ⟨es', clock', hb2, F2, hs2', hD2⟩
  · rw [heap_setBlock_other hb1 _ (fun e => hne (by rw [e])), heap_setBlock_other hb _ (fun e => hne (by rw [e]))]
end Go.Proofs.YtihhgnjkmhdpmaaGreatDoor
