/- Layer 1: Split. -/
import Derived.Test.YtoapfldmkpobmaaGreatDoorT
namespace Go.Proofs.YtoapfldmkpobmaaGreatDoor
open Go.RowKit Go.Shelf
attribute [local go_sem] Oper.semAt_some
def spGood (l : List UInt8) : Bool := (fAll l).all (fun x => x.ok)
/-- Split's error: 0, too long 3, form 6. -/
def spE (l : List UInt8) : Int := if 8192 < l.length then 3 else if spGood l then (if longs (fAll l) || decide (64 < (fAll l).length) then 3 else 0) else 6
theorem fAll_len (l : List UInt8) : (fAll l).length ≤ l.length + 1 := by
  have : ∀ f l, (fSeq f l).length ≤ f := by
    intro f
    induction f with
    | zero => intro l; simp [fSeq]
    | succ f ih =>
      intro l
      simp only [fSeq]
      split
      · simp
      · split
        · simp
        · have := ih (l.drop (fLen l + 1)); simp only [List.length_cons]; omega
  unfold fAll
  split
  · simp
  · exact this _ _
/-- What Split leaves. -/
def SpPost (w : World) (l : List UInt8) (e : Ending) (w' : World) : Prop :=
  Below w.heap.size w w' ∧ ∃ v, e = .returned (.tuple #[v, .int .i64 (spE l)]) ∧
    (spE l = 0 → w'.ownsRow w.heap.size 39 2 v (fAll l).length ((fAll l).flatMap encF) ∧ (v = .slice none 0 0 ↔ fAll l = [])) ∧ (spE l ≠ 0 → v = .slice none 0 0)
theorem results_cells2 {fn : Func} {p q : Tmp} (h : fn.results = #[.cell p 31, .cell q 24]) (tmps : Array Value) (w : World) {b1 b2 : Nat} {v1 v2 : Value} (hp : tmps[p]?.getD undef = .pointer (some ⟨b1, 0, none⟩)) (hq : tmps[q]?.getD undef = .pointer (some ⟨b2, 0, none⟩))
    (h1 : w.cell? ⟨b1, 0, none⟩ = some v1) (h2 : w.cell? ⟨b2, 0, none⟩ = some v2) : (results fn tmps).run Tryz.prog w = .ok (.tuple #[v1, v2]) w := by
  simp only [results, h]
  have u1 := Tryz.underlying31
  have u2 := Tryz.underlying24
  simp [Sem.run_bind, Result.andThen, loadVar, hp, hq, go_sem, h1, h2, isAgg]
theorem at_new {W : World} {o : Obj} {n : Nat} (h : W.heap.size = n) : (W.alloc o).heap[n]? = some o := by subst h; exact World.alloc_heap_new _ _
theorem at_old {W : World} {o o' : Obj} {k : Nat} (h : W.heap[k]? = some o') : (W.alloc o).heap[k]? = some o' := (Below.heap_alloc _ _ _ (in_heap h)).trans h
def lay5 (w : World) (s : ByteArray) : World :=
  (((((w.alloc (.cells #[.slice none 0 0] 31)).alloc (.cells #[.int .i64 0] 24)).alloc (.cells #[.slice none 0 0] 31)).alloc (.cells #[.bool false] 4)).alloc (.cells #[.string s] 9))
theorem lay5_size (w : World) (s : ByteArray) : (lay5 w s).heap.size = w.heap.size + 5 := by simp [lay5]
theorem lay5_below (w : World) (s : ByteArray) : Below w.heap.size w (lay5 w s) :=
  (((((Below.refl _ w).alloc (Nat.le_refl _) _).alloc (by simp) _).alloc (by simp; omega) _).alloc (by simp; omega) _).alloc (by simp; omega) _
theorem lay5_at (w : World) (s : ByteArray) : (lay5 w s).heap[w.heap.size]? = some (.cells #[.slice none 0 0] 31) ∧ (lay5 w s).heap[w.heap.size + 1]? = some (.cells #[.int .i64 0] 24) ∧
    (lay5 w s).heap[w.heap.size + 2]? = some (.cells #[.slice none 0 0] 31) ∧ (lay5 w s).heap[w.heap.size + 3]? = some (.cells #[.bool false] 4) ∧ (lay5 w s).heap[w.heap.size + 4]? = some (.cells #[.string s] 9) := by
  exact ⟨at_old (at_old (at_old (at_old (at_new rfl)))), at_old (at_old (at_old (at_new (by simp)))), at_old (at_old (at_new (by simp))), at_old (at_new (by simp)), at_new (by simp)⟩
/-- What Split's end leaves, closed. -/
theorem sp_close {w W : World} {D : Nat} {v : Value} {l : List UInt8} {tmps : Array Value} (hD : w.heap.size + 5 ≤ D) (hK : W.heap[D]? = some (.deferred (some []))) (hb : Below w.heap.size w W)
    (h2 : W.heap[w.heap.size]? = some (.cells #[v] 31)) (h3 : W.heap[w.heap.size + 1]? = some (.cells #[.int .i64 (spE l)] 24))
    (hp : tmps[2]?.getD undef = .pointer (some ⟨w.heap.size, 0, none⟩)) (hq : tmps[3]?.getD undef = .pointer (some ⟨w.heap.size + 1, 0, none⟩))
    (hok : spE l = 0 → W.ownsRow (w.heap.size + 5) 39 2 v (fAll l).length ((fAll l).flatMap encF) ∧ (v = .slice none 0 0 ↔ fAll l = [])) (hbad : spE l ≠ 0 → v = .slice none 0 0) :
    ∃ v', (results Tryz.f10 tmps).run Tryz.prog (W.putObj D (.deferred none)) = .ok v' (W.putObj D (.deferred none)) ∧ SpPost w l (.returned v') (W.putObj D (.deferred none)) := by
  have o : ∀ k, k ≠ D → (W.putObj D (.deferred none)).heap[k]? = W.heap[k]? := fun k hk => World.putObj_heap_other hk
  refine ⟨_, results_cells2 rfl tmps _ hp hq (one_of ((o _ (by omega)).trans h2)).1 (one_of ((o _ (by omega)).trans h3)).1, ?_, v, rfl, fun h => ⟨?_, (hok h).2⟩, hbad⟩
  · exact hb.grown (grownBy_putObj' W D _) hb.size (fun k e => by cases e; omega)
  · have := (hok h).1.kept (grownBy_putObj' W D (.deferred none)) (by
      rcases (hok h).1.2 with ⟨hv, _⟩ | ⟨g, cap, cur, hv, hb, hgg, rest⟩
      · exact .inl (by rw [hv]; rfl)
      · right
        intro e
        rw [hv] at e
        cases e
        rw [hK] at hgg
        cases hgg)
    refine ⟨this.1, this.2.imp (fun h => h) ?_⟩
    rintro ⟨g, cap, cur, h1, h2, rest⟩
    exact ⟨g, cap, cur, h1, by omega, rest⟩
set_option maxRecDepth 100000 in
theorem split_any (s : ByteArray) (w : World) (hw : LW w) (hs : s.size ≤ 100000000000) : Calls Tryz.prog 10 #[.string s] w (SpPost w s.data.toList) := by
  refine (callsIn_wide (n := 5)).1 ?_
  have h1 : 1 ≤ 4 := by omega
  have hm : 1 ≤ 5 := by omega
  refine callsIn_of_wp_marks Tryz.func10 rfl trivial ?_ rfl
  simp only [Tryz.ntmps10, List.size_toArray, List.length_cons, List.length_nil, Nat.reduceAdd, Nat.reduceSub, Array.replicate_succ, Array.replicate_zero, List.push_toArray, List.append_toArray, List.nil_append, List.cons_append]
  by_cases hlong : 8192 < s.size
  · have hb : decide ((8192 : Int) < (s.size : Int)) = true := decide_eq_true (by omega)
    have he : spE s.data.toList = 3 := by unfold spE; rw [length_data, if_pos hlong]
    have HE := Lib.hid he
    clear he
    gi_wp2
    refine ⟨_, results_cells2 rfl _ _ (b1 := w.heap.size) (b2 := w.heap.size + 1) (v1 := .slice none 0 0) (v2 := .int .i64 3) rfl rfl (by simp) (by simp), ((Below.refl _ w).alloc (Nat.le_refl _) _).alloc (by simp) _, _, by rw [HE.out], fun h => ?_, fun _ => rfl⟩
    rw [HE.out] at h; cases h
  · have hb : decide ((8192 : Int) < (s.size : Int)) = false := decide_eq_false (by omega)
    have HF := Lib.hid (fun w => (callsIn_wide (n := 4)).2 (fieldsOf_any s w))
    gi_wp2_with (refine ⟨trivial, ?_⟩; gi_at_call 25; refine (HF.out _).mono ?_; rintro e w' ⟨rfl, rfl⟩)
    simp only [Nat.add_assoc, Nat.reduceAdd]
    generalize hwL : World.alloc _ (Obj.cells #[Value.string s] 9) = wL
    replace hwL : wL = lay5 w s := hwL.symm
    have hsL : wL.heap.size = w.heap.size + 5 := by rw [hwL]; exact lay5_size w s
    have hbL : Below w.heap.size w wL := by rw [hwL]; exact lay5_below w s
    obtain ⟨l0, l1, l2, l3, l4⟩ := lay5_at w s
    rw [← hwL] at l0 l1 l2 l3 l4
    clear hwL HF hb
    obtain ⟨g1, g2, g3, g4⟩ := hw.gs
    have hB : RX.OwnB wL.heap.size (spOwn w) := by rw [hsL]; exact spOwn_b w
    have hit := iter_seq (n := 4) (A := w.heap.size) (B := wL.heap.size) (Own := spOwn w) (w := wL) (s := s) (Bn := w.heap.size + 4) (by omega) hB (by omega) ⟨g1, g2, g3, g4⟩ (hw.below hbL) hs (one_of l4).1 (by omega)
    have hN := fAll_len s.data.toList
    rw [length_data] at hN
    refine RX.rangeX rfl hm (gf := 40) (lb := #[.pointer (some ⟨w.heap.size + 4, 0, none⟩)]) rfl trivial (enters_of Tryz.func40 (by kernel_rfl) rfl) hit (by omega) hB (fun W h => h.1 (by omega)) ?_ (Below.refl _ _) (fun _ => rfl) (SpI w) (SpX w) (by rw [hsL]; exact SpI.ab w) (fun c => by rw [hsL]; exact SpX.ab w c) ?_ ?round ?done ?stop
    · rintro r ⟨_, v, hv, hvb⟩
      rw [l2] at hv; cases hv; cases hvb
    · exact ⟨hbL, l0, l1, l3, by simp, _, l2, World.ownsRow_nil _ _ _ _, by simp, by simp [Value.ownBlock]⟩
    case round =>
      intro l pre x W hl hlp hI hlen
      have hA := sp_after (s := s) (n := 3) (t1 := undef) (x := x) (hl.trans (by omega)) hlp hI (by omega) (g := fun i => (#[undef, undef, undef, undef, undef, undef, undef, undef, .string s, .int .i64 s.size, .bool false, .string s, .func (.func 40) #[] #[.pointer (some ⟨w.heap.size + 4, 0, none⟩)], .agg #[.string ⟨x.s.toArray⟩, .bool x.q], .bool x.ok] : Array Value).getD i undef) rfl
      rw [show (#[13, 14] : Array Tmp).zip (encI x) = #[(13, .agg #[.string ⟨x.s.toArray⟩, .bool x.q]), (14, .bool x.ok)] from by simp [encI]]
      rw [hsL]
      simp only [spBody, bodyOf, Tryz.f10, rangeIn, spAct] at hA
      have HA := Lib.hid hA
      clear hA
      gi_wp2
      exact HA.out
    case done =>
      rintro D xs W hD rfl hI hK
      obtain ⟨v, hv, ho, hn, hne⟩ := hI.row
      obtain ⟨p, c, rfl⟩ : ∃ p c, v = .slice p (fAll s.data.toList).length c := by
        rcases ho.2 with ⟨rfl, h0⟩ | ⟨g, cap, cur, rfl, _⟩
        · exact ⟨none, 0, by rw [h0]⟩
        · exact ⟨_, _, rfl⟩
      have hgood : spGood s.data.toList = true := by unfold spGood; rw [List.all_eq_true]; exact hI.ok
      have cl := (one_of hv).1
      have cg := (one_of hI.g).1
      have c2 := (one_of hI.r2).1
      have f2 := (one_of hI.r2).2
      have c3 := (one_of hI.r3).1
      have f3 := (one_of hI.r3).2
      have o : ∀ (a b : Value), ((W.setCell ⟨w.heap.size, 0, none⟩ a).setCell ⟨w.heap.size + 1, 0, none⟩ b).heap[D]? = W.heap[D]? := fun a b => by
        rw [Below.heap_setCell _ _ _ _ (show D ≠ w.heap.size + 1 by omega), Below.heap_setCell _ _ _ _ (show D ≠ w.heap.size by omega)]
      have q2 : ∀ (a b : Value), ((W.setCell ⟨w.heap.size, 0, none⟩ a).setCell ⟨w.heap.size + 1, 0, none⟩ b).heap[w.heap.size]? = some (.cells #[a] 31) := fun a b => by
        rw [Below.heap_setCell _ _ _ _ (by simp)]; exact one_setCell hI.r2
      have q3 : ∀ (a b : Value), ((W.setCell ⟨w.heap.size, 0, none⟩ a).setCell ⟨w.heap.size + 1, 0, none⟩ b).heap[w.heap.size + 1]? = some (.cells #[b] 24) := fun a b => one_setCell (by
        rw [Below.heap_setCell _ _ _ _ (by simp)]; exact hI.r3)
      have qb : ∀ (a b : Value), Below w.heap.size w ((W.setCell ⟨w.heap.size, 0, none⟩ a).setCell ⟨w.heap.size + 1, 0, none⟩ b) := fun a b => (hI.bel.setCell (p := ⟨w.heap.size, 0, none⟩) (Nat.le_refl _) _).setCell (p := ⟨w.heap.size + 1, 0, none⟩) (by simp) _
      have he : spE s.data.toList = if longs (fAll s.data.toList) || decide (64 < (fAll s.data.toList).length) then 3 else 0 := by
        unfold spE; rw [length_data, if_neg hlong, hgood, if_pos rfl]
      have HO := Lib.hid ho
      have HN := Lib.hid hn
      have HE := Lib.hid he
      have HI := Lib.hid hI
      clear ho hn he hI hne hgood hv
      obtain ⟨lg, hlg⟩ : ∃ b, b = longs (fAll s.data.toList) := ⟨_, rfl⟩
      rw [← hlg] at HE cg
      obtain ⟨N, hNN⟩ : ∃ n, n = (fAll s.data.toList).length := ⟨_, rfl⟩
      rw [← hNN] at cl HE hN HO HN
      have HLG := Lib.hid hlg
      have HNN := Lib.hid hNN
      clear hlg hNN
      cases lg
      · by_cases h64 : 64 < N
        · have hb : decide ((64 : Int) < (N : Int)) = true := decide_eq_true (by omega)
          have HE3 := Lib.hid (show spE s.data.toList = 3 by rw [HE.out]; simp [h64])
          clear HE h64
          gi_wp2
          refine ⟨by simp, .inl ⟨_, _, rfl, run_takeDeferred ((o _ _).trans hK), ?_⟩⟩
          exact sp_close (v := .slice none 0 0) (by omega) ((o _ _).trans hK) (qb _ _) (q2 _ _) (by rw [HE3.out]; exact q3 _ _) rfl rfl (fun h => by rw [HE3.out] at h; cases h) (fun _ => rfl)
        · have hb : decide ((64 : Int) < (N : Int)) = false := decide_eq_false (by omega)
          have HE0 := Lib.hid (show spE s.data.toList = 0 by rw [HE.out]; simp [h64])
          clear HE h64
          gi_wp2
          refine ⟨by simp, .inl ⟨_, _, rfl, run_takeDeferred ((o _ _).trans hK), ?_⟩⟩
          refine sp_close (v := .slice p N c) (by omega) ((o _ _).trans hK) (qb _ _) (q2 _ _) (by rw [HE0.out]; exact q3 _ _) rfl rfl (fun _ => ⟨?_, HN.out⟩) (fun h => absurd HE0.out h)
          rw [← HNN.out]
          exact ownsRow_setCell_below (ownsRow_setCell_below HO.out (by simp) _) (by simp) _
      · have HE3 := Lib.hid (show spE s.data.toList = 3 by rw [HE.out]; simp)
        clear HE
        gi_wp2
        refine ⟨by simp, .inl ⟨_, _, rfl, run_takeDeferred ((o _ _).trans hK), ?_⟩⟩
        exact sp_close (v := .slice none 0 0) (by omega) ((o _ _).trans hK) (qb _ _) (q2 _ _) (by rw [HE3.out]; exact q3 _ _) rfl rfl (fun h => by rw [HE3.out] at h; cases h) (fun _ => rfl)
    case stop =>
      rintro D c pre W hD hp ⟨rfl, hb, h2, h3, x, hx, hxo⟩ hK
      have he : spE s.data.toList = 6 := by
        have hg : spGood s.data.toList = false := by unfold spGood; rw [List.all_eq_false]; exact ⟨x, hp.subset hx, by simp [hxo]⟩
        unfold spE; rw [length_data, if_neg hlong, hg]; rfl
      have HE := Lib.hid he
      clear he
      gi_wp2
      refine ⟨by simp, .inl ⟨_, _, rfl, run_takeDeferred hK, ?_⟩⟩
      exact sp_close (v := .slice none 0 0) (by omega) hK hb h2 (by rw [HE.out]; exact h3) rfl rfl (fun h => by rw [HE.out] at h; cases h) (fun _ => rfl)
end Go.Proofs.YtoapfldmkpobmaaGreatDoor
